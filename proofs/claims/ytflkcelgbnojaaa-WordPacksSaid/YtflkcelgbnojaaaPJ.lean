/- The contract of the document's own answer that joins bytes to a word. -/
import Derived.Test.YtflkcelgbnojaaaU
import Derived.Test.YtflkcelgbnojaaaPB
namespace Go.Proofs.Ytflkcelgbnojaaa
open Go.RowKit
set_option linter.unusedVariables false

def jn (l : Nat → Int) (s : Nat) (big : Bool) : Nat → Int
  | 0 => 0
  | t + 1 => jn l s big t * 256 + l (if big then t else s - 1 - t)
theorem jn_bd (l : Nat → Int) (s : Nat) (big : Bool) (hl : ∀ p, p < s → 0 ≤ l p ∧ l p ≤ 255) : ∀ t, t ≤ s → 0 ≤ jn l s big t ∧ jn l s big t < 256 ^ t := by
  intro t
  induction t with
  | zero => intro _; simp [jn]
  | succ t ih =>
    intro ht
    obtain ⟨h1, h2⟩ := ih (by omega)
    have h3 := hl (if big then t else s - 1 - t) (by split <;> omega)
    rw [jn, Int.pow_succ]
    constructor <;> omega
set_option maxHeartbeats 1000000 in
theorem join_any {n : Int} (hn : OkB n) (big : Bool) (b off s cap : Nat) (l : Nat → Int) (hl : ∀ p, p < s → 0 ≤ l p ∧ l p ≤ 255) (hs1 : 1 ≤ s) (hs : s ≤ 4) (w : World) (hr : Row w b off s (fun p => .int .i64 (l p))) :
    Calls Try.prog 64 #[.slice (some ⟨b, off, none⟩) s cap, .agg #[.int .i64 n, .bool big]] w fun e w' => e = .returned (.int .i64 (nrm (jn l s big s) n)) ∧ Fr w w' := by
  have H := Lib.hid hn
  have HR := Lib.hid (hr.fr ((Fr.refl w).alloc (.cells #[.int .i64 n, .bool big] 27)))
  have HL := Lib.hid hl
  clear hr hn hl
  cases big
  all_goals
    go_enter Try.func64, Try.ntmps64
    go_wp2_with fail
  · go_loop [5, 6] (fun v i => ∃ t : Nat, t ≤ s ∧ i = .int .i64 t ∧ v = .int .i64 (jn l s false t)) (fun _ i => s - (intOf i).toNat)
    case atStart => exact ⟨0, Nat.zero_le _, rfl, rfl⟩
    case round =>
      obtain ⟨t, ht, rfl, rfl⟩ := hrel
      by_cases hlt : t < s
      · have hlb := HL.out (s - 1 - t) (by omega)
        have hj := jn_bd l s false HL.out t ht
        have hp : (256 : Int) ^ t ≤ 16777216 := by
          have : t = 0 ∨ t = 1 ∨ t = 2 ∨ t = 3 := by omega
          rcases this with rfl | rfl | rfl | rfl <;> decide
        have hc := HR.out (s - 1 - t) (by omega)
        obtain ⟨l1, l2⟩ := hlb
        obtain ⟨j1, j2⟩ := hj
        have j3 : jn l s false t ≤ 16777216 := by omega
        clear j2 hp
        go_wp2
        go_round
        case rel => exact ⟨t + 1, by omega, by go_num, rfl⟩
        case measure => simp [intOf]; omega
      · obtain rfl : t = s := by omega
        go_wp2_with (go_at_call 46; refine (norm_any H.out _ _).mono ?_; rintro e w' ⟨rfl, rfl⟩)
        go_ret
        exact ⟨rfl, (Fr.refl _).alloc _⟩
  · go_loop [5, 6] (fun v i => ∃ t : Nat, t ≤ s ∧ i = .int .i64 t ∧ v = .int .i64 (jn l s true t)) (fun _ i => s - (intOf i).toNat)
    case atStart => exact ⟨0, Nat.zero_le _, rfl, rfl⟩
    case round =>
      obtain ⟨t, ht, rfl, rfl⟩ := hrel
      by_cases hlt : t < s
      · have hlb := HL.out t (by omega)
        have hj := jn_bd l s true HL.out t ht
        have hp : (256 : Int) ^ t ≤ 16777216 := by
          have : t = 0 ∨ t = 1 ∨ t = 2 ∨ t = 3 := by omega
          rcases this with rfl | rfl | rfl | rfl <;> decide
        have hc := HR.out t (by omega)
        obtain ⟨l1, l2⟩ := hlb
        obtain ⟨j1, j2⟩ := hj
        have j3 : jn l s true t ≤ 16777216 := by omega
        clear j2 hp
        go_wp2
        go_round
        case rel => exact ⟨t + 1, by omega, by go_num, rfl⟩
        case measure => simp [intOf]; omega
      · obtain rfl : t = s := by omega
        go_wp2_with (go_at_call 46; refine (norm_any H.out _ _).mono ?_; rintro e w' ⟨rfl, rfl⟩)
        go_ret
        exact ⟨rfl, (Fr.refl _).alloc _⟩
end Go.Proofs.Ytflkcelgbnojaaa
