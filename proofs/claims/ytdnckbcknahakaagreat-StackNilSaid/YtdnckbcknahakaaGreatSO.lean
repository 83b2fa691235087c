/- The small code's run: eight steps. -/
import Derived.Test.YtdnckbcknahakaaGreatSM
namespace Go.Proofs.YtdnckbcknahakaaGreat
open Go.RowKit
set_option linter.unusedVariables false
set_option linter.unusedSimpArgs false

theorem wrI {x y : Int} (h : x = y) (h1 : -9000000000000000000 ≤ y) (h2 : y ≤ 9000000000000000000) : IntKind.i64.wrap x = y := wr h h1 h2
def f1F (f : Nat → Value) : Nat → Value := upd (upd f 8000 (.int .i64 8000)) 8001 (.int .i64 (-1))
def f2F (f : Nat → Value) : Nat → Value := upd (f1F f) 8004 (.int .i64 65)
def f3F (f : Nat → Value) : Nat → Value := upd (f2F f) 8005 (.int .i64 32503)
def f4F (f : Nat → Value) : Nat → Value := upd (f3F f) 8002 (.int .i64 0)
def bgF : Nat → Nat → Value
  | 0 => fun _ => .int .i64 0
  | n + 1 => upd (bgF n) n (.int .i64 1)
theorem bgF_at : ∀ n j, n ≤ j → bgF n j = .int .i64 0
  | 0, _, _ => rfl
  | n + 1, j, h => by rw [bgF]; unfold upd; rw [if_neg (by omega)]; exact bgF_at n j (by omega)
def RunQ (L : Lay) (B : Nat) (f fc : Nat → Value) (wr : World) : Nat → Prop
  | 0 => Dyn wr L (mkS L 8000 0 0 (.pointer none) (.slice none 0 0) 0 false) f fc (bgF 0)
  | 1 => Dyn wr L (mkS L 8000 0 0 (.pointer none) (.slice none 0 0) 1 false) (f1F f) (upd fc 0 (.bool true)) (bgF 0)
  | 2 => Dyn wr L (mkS L 8000 2 1 (.pointer none) (.slice none 0 0) 2 false) (f1F f) (upd fc 0 (.bool true)) (bgF 1)
  | 3 => Dyn wr L (mkS L 8000 4 2 (.pointer none) (.slice none 0 0) 3 false) (f1F f) (upd fc 0 (.bool true)) (bgF 2)
  | 4 => Dyn wr L (mkS L 8000 5 3 (.pointer none) (.slice none 0 0) 4 false) (f2F f) (upd fc 0 (.bool true)) (bgF 3)
  | 5 => Dyn wr L (mkS L 8000 6 4 (.pointer none) (.slice none 0 0) 5 false) (f3F f) (upd fc 0 (.bool true)) (bgF 4)
  | 6 => ∃ ob, Dyn wr L (mkS L 8000 3 5 (.pointer (some ⟨L.b, 11, none⟩)) ob 6 false) (f4F f) (upd fc 0 (.bool true)) (bgF 5) ∧ wr.ownsRow B 5 1 ob 1 [.int .u8 65]
  | 7 => ∃ ob, Dyn wr L (mkS L 8000 2 6 (.pointer (some ⟨L.b, 11, none⟩)) ob 7 false) (f4F f) (upd fc 0 (.bool true)) (bgF 6) ∧ wr.ownsRow B 5 1 ob 1 [.int .u8 65]
  | _ => ∃ ob, Dyn wr L (mkS L 8000 2 7 (.pointer (some ⟨L.b, 11, none⟩)) ob 8 true) (f4F f) (upd fc 0 (.bool true)) (bgF 7) ∧ wr.ownsRow B 5 1 ob 1 [.int .u8 65]
theorem run_next (L : Lay) (B : Nat) (f fc : Nat → Value) (k : LayOk L) (h1 : f 1 = .int .i64 ((32000 + 1 : Nat) : Int)) (h3 : f 3 = .int .i64 32503) (hB : ∀ i, Kd L i → i < B) : ∀ (j : Nat) (wr : World), j < 8 → B ≤ wr.heap.size → Sta wr L → RunQ L B f fc wr j →
    Calls Tryz.prog 32 #[.pointer (some ⟨L.b, 0, none⟩)] wr fun e w' => e = .returned (.tuple #[]) ∧ RunQ L B f fc w' (j + 1) ∧ Ex (Kd L) wr w'
  | 0, wr, _, _, s, q => step_first L _ _ f fc _ wr k s q h1
  | 1, wr, _, _, s, q => step_0 L _ _ _ _ _ wr k s q (bgF_at 0 0 (Nat.le_refl _))
  | 2, wr, _, _, s, q => step_1 L _ _ _ _ _ wr k s q (bgF_at 1 1 (Nat.le_refl _))
  | 3, wr, _, _, s, q => step_2 L _ _ _ _ _ wr k s q (bgF_at 2 2 (Nat.le_refl _))
  | 4, wr, _, _, s, q => step_3 L _ _ _ _ _ wr k s q (bgF_at 3 3 (Nat.le_refl _)) (by unfold f2F f1F upd; simpa using h3)
  | 5, wr, _, hb, s, q => (step_4 L _ _ _ wr k s q (bgF_at 4 4 (Nat.le_refl _)) (by unfold f3F upd; simp) (by unfold f3F f2F upd; simp)).mono fun _ _ ⟨he, ⟨ob, hd, ho⟩, hx⟩ => ⟨he, ⟨ob, hd, own_base8 ho hb⟩, hx⟩
  | 6, wr, _, _, s, ⟨ob, q, ho⟩ => (step_5 L _ _ _ _ _ wr k s q (bgF_at 5 5 (Nat.le_refl _))).mono fun _ _ ⟨he, hd, hx⟩ => ⟨he, ⟨ob, hd, Ex.own hx (fun i hi e => by have h2 := (ho.lt i hi).1; have h4 := hB i e; omega) ho⟩, hx⟩
  | 7, wr, _, _, s, ⟨ob, q, ho⟩ => (step_6 L _ _ _ _ _ wr k s q (bgF_at 6 6 (Nat.le_refl _)) (by unfold f4F f3F f2F f1F upd; simp) (by unfold f4F f3F f2F f1F upd; simp)).mono fun _ _ ⟨he, hd, hx⟩ => ⟨he, ⟨ob, hd, Ex.own hx (fun i hi e => by have h2 := (ho.lt i hi).1; have h4 := hB i e; omega) ho⟩, hx⟩
  | n + 8, _, h, _, _, _ => absurd h (by omega)
theorem RunQ.en {L : Lay} {B : Nat} {f fc : Nat → Value} {wr : World} : ∀ (j : Nat), j ≤ 8 → RunQ L B f fc wr j → wr.cell? ⟨L.b, 14, none⟩ = some (.bool (decide (8 ≤ j)))
  | 0, _, q => Blk.cell (Dyn.m q) rfl
  | 1, _, q => Blk.cell (Dyn.m q) rfl
  | 2, _, q => Blk.cell (Dyn.m q) rfl
  | 3, _, q => Blk.cell (Dyn.m q) rfl
  | 4, _, q => Blk.cell (Dyn.m q) rfl
  | 5, _, q => Blk.cell (Dyn.m q) rfl
  | 6, _, ⟨_, q, _⟩ => Blk.cell (Dyn.m q) rfl
  | 7, _, ⟨_, q, _⟩ => Blk.cell (Dyn.m q) rfl
  | 8, _, ⟨_, q, _⟩ => Blk.cell (Dyn.m q) rfl
  | n + 9, h, _ => absurd h (by omega)
set_option maxRecDepth 100000 in
set_option maxHeartbeats 4000000 in
theorem run_d (L : Lay) (B : Nat) (f fc : Nat → Value) (w : World) (k : LayOk L) (s : Sta w L) (q0 : RunQ L B f fc w 0) (h1 : f 1 = .int .i64 ((32000 + 1 : Nat) : Int)) (h3 : f 3 = .int .i64 32503) (hB : ∀ i, Kd L i → i < B) (hBw : B ≤ w.heap.size) :
    Calls Tryz.prog 22 #[.pointer (some ⟨L.b, 0, none⟩), .int .i64 100] w fun e w' => e = .returned (.tuple #[]) ∧ RunQ L B f fc w' 8 ∧ Ex (Kd L) w w' := by
  have NX := Lib.hid (run_next L B f fc k h1 h3 hB)
  have K := Lib.hid k
  have HS := Lib.hid s
  have HQ := Lib.hid q0
  have HB := Lib.hid hBw
  clear k s q0 h1 h3 hB hBw
  go_enter Tryz.func22, Tryz.ntmps22
  go_wp2_with fail
  go_loopw [1] (fun n wr => ∃ j : Nat, j ≤ 8 ∧ n = .int .i64 ((100 - j : Nat) : Int) ∧ Hid (RunQ L B f fc wr j) ∧ Hid (Ex (Kd L) w wr)) (fun n _ => (intOf n).toNat)
  case atStart => exact ⟨0, by omega, rfl, HQ, Lib.hid (Ex.refl _ _)⟩
  case round =>
    obtain ⟨j, hj, rfl, HQJ, HX⟩ := hrel
    obtain ⟨m, hm⟩ : ∃ m : Nat, m = 100 - j := ⟨_, rfl⟩
    rw [← hm]
    have z1 : (0 : Int) < (m : Int) := by omega
    have z2 : decide ((0 : Int) < (m : Int)) = true := decide_eq_true z1
    have z3 : 0 < m := by omega
    have e14 := RunQ.en j hj HQJ.out
    by_cases hlt : j < 8
    · have z4 : decide (8 ≤ j) = false := decide_eq_false (by omega)
      rw [z4] at e14
      have CS := Lib.hid (NX.out j wr hlt (Nat.le_trans HB.out HX.out.size) (HS.out.ex K.out HX.out) HQJ.out)
      have HJ := Lib.hid (And.intro hm hlt)
      have Z5 : Hid (wrap64 ((m : Int) - 1) = ((m - 1 : Nat) : Int)) := Lib.hid (wr64 (by omega) (by omega) (by omega))
      have Z6 : Hid (IntKind.i64.wrap ((m : Int) - 1) = ((m - 1 : Nat) : Int)) := Lib.hid (wrI (by omega) (by omega) (by omega))
      clear hm hlt hj z4
      go_wp2_with fail
      refine (CS.out).mono ?_
      rintro e w2 ⟨rfl, hq2, hx2⟩
      have HQ2 := Lib.hid hq2
      have HX2 := Lib.hid (HX.out.trans hx2)
      clear hq2 hx2 e14
      have z5 := Z5.out
      have z6 := Z6.out
      go_wp2_with fail
      go_roundw
      case rel => exact ⟨j + 1, by have := HJ.out; omega, by have := HJ.out; rw [show 100 - (j + 1) = m - 1 by omega], HQ2, HX2⟩
      case measure => simp [intOf]; have := HJ.out; omega
    · have z4 : decide (8 ≤ j) = true := decide_eq_true (by omega)
      rw [z4] at e14
      obtain rfl : j = 8 := by omega
      clear hm hlt hj z4
      go_wp2_with fail
      go_end0
      exact ⟨rfl, HQJ.out, HX.out⟩
end Go.Proofs.YtdnckbcknahakaaGreat
