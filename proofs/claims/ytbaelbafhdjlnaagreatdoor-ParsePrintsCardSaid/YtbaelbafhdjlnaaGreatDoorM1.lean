/- A part of the proof that the law ParsePrints holds for every input. -/
import Derived.Below
import Derived.RowKit3
import Derived.Deep.Draws
import Derived.IntWalk
import Derived.Deep.OwnRows
import Derived.Lib.Hide
import Derived.WalkKit
import Derived.Maps.AppendAt
import Derived.Deep.AppendLies
import Derived.Laws.OwnMore
import Derived.Test.YtbaelbafhdjlnaaGreatDoorRows
import Derived.LoopTactic
import Derived.Deep.QuietTactic
import Derived.BigQuiet
import Derived.Outline
import Derived.Laws.BytesArg
import Derived.Lib.Strings
import Derived.Lib.IndexBytes
import Derived.Laws.EntriesVeiled
import Derived.Maps.Own
import Derived.Maps.Views
import Derived.Maps.StringElems
namespace Go.Proofs.YtbaelbafhdjlnaaGreatDoor
open Go.RowKit _root_.Go.Proofs.Tryz
set_option linter.unusedVariables false
set_option linter.unusedSimpArgs false
set_option maxRecDepth 100000
set_option maxHeartbeats 2000000
abbrev BA := ByteArray
theorem h_ {p : Prop} (h : p) : RowKit.Hid p := h
def Fr (a b : World) : Prop := Below a.heap.size a b
theorem Fr.refl (a : World) : Fr a a := Below.refl _ _
theorem Fr.trans {a b c : World} (h : Fr a b) (k : Fr b c) : Fr a c := Below.trans h (Below.mono k h.size)
theorem Fr.alloc {a b : World} (h : Fr a b) (o : Obj) : Fr a (b.alloc o) := Below.alloc h h.size o
theorem Fr.drewN {a b : World} (h : Fr a b) (n : Nat) : Fr a (b.drewN n) := ⟨h.os,h.tape,h.output,h.size,h.block⟩
theorem Fr.drew {a b : World} (h : Fr a b) : Fr a b.drew := ⟨h.os,h.tape,h.output,h.size,h.block⟩
theorem Fr.frozen {w w' : World} (h : Fr w w') {b o : Nat} {v : Value} (hc : w.cell? ⟨b,o,none⟩ = some v) : w'.frozen? ⟨b,o,none⟩ = w.frozen? ⟨b,o,none⟩ := Below.frozen h (World.block_lt_of_cell? w _ hc)
theorem Fr.setCell {a b : World} (h : Fr a b) {p : Addr} (hp : a.heap.size ≤ p.block) (v : Value) : Fr a (b.setCell p v) := Below.setCell h hp v
theorem ret_int {k : IntKind} {a b : Int} (h : a = b) : Ending.returned (.int k a) = .returned (.int k b) := by rw [h]
def Row (w : World) (b off n : Nat) (f : Nat → Value) : Prop := ∀ i,i < n → w.cell? ⟨b,off + i,none⟩ = some (f i)
theorem Fr.cell {w w' : World} (h : Fr w w') {b o : Nat} {v : Value} (hc : w.cell? ⟨b,o,none⟩ = some v) : w'.cell? ⟨b,o,none⟩ = some v := by
 have hb := World.block_lt_of_cell? w _ hc
 exact (Below.cell h hb).trans hc
theorem Row.fr {w w' : World} {b off n : Nat} {f : Nat → Value} (h : Row w b off n f) (k : Fr w w') : Row w' b off n f := fun i hi => k.cell (h i hi)
theorem Fr.row {w w' : World} (h : Fr w w') {b : Nat} {t : TypeId} {n : Nat} {f : Nat → Value} (k : w.rowIs b t n f) : w'.rowIs b t n f := k.of_block (h.block b k.lt)
theorem Fr.new {w w' : World} {b : Nat} (hb : w.heap.size ≤ b) (h : w.grownBy w' (some b)) : Fr w w' :=
 ⟨h.os,h.tape,h.output,h.size,fun k hk => h.block k hk (by simp; omega)⟩
def SlV (w : World) (v : Value) (L : Nat) (f : Nat → Value) : Prop := ∃ a cap,v = .slice a L cap ∧ (0 < L → ∃ b off,a = some ⟨b,off,none⟩ ∧ Row w b off L f)
theorem SlV.fr {w w' : World} {v : Value} {L : Nat} {f : Nat → Value} (h : SlV w v L f) (k : Fr w w') : SlV w' v L f := by
 obtain ⟨a,cap,rfl,h⟩ := h
 exact ⟨a,cap,rfl,fun hL => by obtain ⟨b,off,rfl,hr⟩ := h hL; exact ⟨b,off,rfl,hr.fr k⟩⟩
theorem SlV.row {w : World} {g : Nat} {T : TypeId} {L cap : Nat} {f : Nat → Value} (h : w.rowIs g T L f) : SlV w (.slice (some ⟨g,0,none⟩) L cap) L f :=
 ⟨_,cap,rfl,fun _ => ⟨g,0,rfl,fun i hi => by rw [Nat.zero_add]; exact h.cell hi⟩⟩
theorem SlV.nil (w : World) (f : Nat → Value) : SlV w (.slice none 0 0) 0 f := ⟨none,0,rfl,fun h => absurd h (by decide)⟩
theorem ap_add (b off j : Nat) : (⟨b,off,none⟩ : Addr).add j = ⟨b,off + j,none⟩ := by unfold Addr.add; split <;> simp_all
def many (m : Nat) (f : Nat → Value) : List Value := (List.range m).map f
theorem many_at {m : Nat} {f : Nat → Value} {j : Nat} (h : j < m) : (many m f)[j]? = some (f j) := by unfold many; simp [h]
theorem many_len (m : Nat) (f : Nat → Value) : (many m f).length = m := by unfold many; simp
section
variable {P : Program} {w : World}
theorem run_append_sl (base : Nat) (t ty e : TypeId) (i : TypeInfo) (z : Value) (bytes : Nat) (ht : P.underlying t = some (.slice e)) (hi : P.info? e = some i) (hz : i.zero = some z)
 (hsize : i.size = 1) (hby : i.bytes = bytes) (hzs : z.cells.size = 1) (v : Value) (n : Nat) (xs : List Value) (hown : w.ownsRow base e 1 v n xs)
 (x : Value) (m : Nat) (f : Nat → Value) (hx : SlV w x m f) (h1 : ∀ j,(f j).oneCell' = true) (h63 : n + m ≤ maxLen) (hbytes : (n + m) * bytes ≤ 140737488355328) (hbase : base ≤ w.heap.size) :
 ∃ v' w',(Builtin.append_ #[t,t] ty #[v,x]).run P w = .ok v' w' ∧ w'.ownsRow base e 1 v' (n + m) (xs ++ many m f) ∧ w.grownBy w' v.ownBlock := by
 obtain ⟨a,cap,rfl,hr⟩ := hx
 cases a with
 | none =>
  have hm : m = 0 := by
   rcases Nat.eq_zero_or_pos m with h | h
   ·exact h
   ·obtain ⟨_,_,h,_⟩ := hr h; cases h
  subst hm
  refine ⟨v,w,?_,by simpa [many] using hown,World.grownBy.refl w _⟩
  rcases hown.2 with ⟨rfl,rfl⟩ | ⟨g,c,cur,rfl,_,_,hnc,_⟩
  ·simp [Builtin.append_,run_underlying ht,sizeOf,typeInfo,hi,Builtin.lenOf,Builtin.firstCells]
  ·simp [Builtin.append_,run_underlying ht,sizeOf,typeInfo,hi,Builtin.lenOf,Builtin.firstCells,hnc,storeCells]
 | some ad =>
  obtain ⟨v',w',r1,r2,r3,_,_⟩ := run_append_own_at (P := P) w base t ty e i z 1 bytes ht hi hz hsize hby hzs (by decide) v n xs hown ad m cap (many m f) (by rw [many_len]; omega) (fun j u hu => by
   by_cases hj : j < m
   ·obtain ⟨b,off,h,hrow⟩ := hr (by omega)
    injection h with h
    subst h
    rw [many_at hj] at hu
    rw [ap_add,hrow j hj,hu]
   ·rw [List.getElem?_eq_none (by rw [many_len]; omega)] at hu; cases hu) (fun u hu => by
    unfold many at hu
    obtain ⟨j,_,rfl⟩ := List.mem_map.1 hu
    exact h1 j) h63 hbytes hbase
  exact ⟨v',w',r1,r2,r3⟩
theorem wp_append_sl {o : Oper} {a : Act} {K : Act → World → Prop} {Q : Exit → Act → World → Prop} (s x : Operand) (t : TypeId)
 (ho : o.op = .call { callee := .builtin .append,args := #[s,x],argTypes := #[t,t] })
 (base : Nat) (e : TypeId) (i : TypeInfo) (z : Value) (bytes : Nat) (ht : P.underlying t = some (.slice e)) (hi : P.info? e = some i) (hz : i.zero = some z)
 (hsize : i.size = 1) (hby : i.bytes = bytes) (hzs : z.cells.size = 1) (v : Value) (n : Nat) (xs : List Value) (hs : a.eval s = v) (hown : w.ownsRow base e 1 v n xs)
 (y : Value) (m : Nat) (f : Nat → Value) (hy : a.eval x = y) (hx : SlV w y m f) (h1 : ∀ j,(f j).oneCell' = true) (h63 : n + m ≤ maxLen) (hbytes : (n + m) * bytes ≤ 140737488355328) (hbase : base ≤ w.heap.size)
 (h : ∀ v' w',w'.ownsRow base e 1 v' (n + m) (xs ++ many m f) → w.grownBy w' v.ownBlock → K (a.put o.dst v') w') : o.wp P a w K Q := by
 obtain ⟨v',w',r1,r2,r3⟩ := run_append_sl (P := P) base t o.type e i z bytes ht hi hz hsize hby hzs v n xs hown y m f hx h1 h63 hbytes hbase
 unfold Oper.wp execOp
 simp only [ho,resolve,invoke,builtin,Sem.run_bind,Sem.run_pure,Result.andThen_ok,List.map_toArray,List.map_cons,List.map_nil,hs,hy,r1]
 exact h v' w' r2 r3
theorem wpList_append_sl {ops : Array Oper} {rest : List Oper} {o : Oper} {a : Act} {Q : Exit → Act → World → Prop} (hgd : o.guard = none) (s x : Operand) (t : TypeId)
 (ho : o.op = .call { callee := .builtin .append,args := #[s,x],argTypes := #[t,t] })
 (base : Nat) (e : TypeId) (i : TypeInfo) (z : Value) (bytes : Nat) (ht : P.underlying t = some (.slice e)) (hi : P.info? e = some i) (hz : i.zero = some z)
 (hsize : i.size = 1) (hby : i.bytes = bytes) (hzs : z.cells.size = 1) (v : Value) (n : Nat) (xs : List Value) (hs : a.eval s = v) (hown : w.ownsRow base e 1 v n xs)
 (y : Value) (m : Nat) (f : Nat → Value) (hy : a.eval x = y) (hx : SlV w y m f) (h1 : ∀ j,(f j).oneCell' = true) (h63 : n + m ≤ maxLen) (hbytes : (n + m) * bytes ≤ 140737488355328) (hbase : base ≤ w.heap.size)
 (h : ∀ v' w',w'.ownsRow base e 1 v' (n + m) (xs ++ many m f) → w.grownBy w' v.ownBlock → wpList P ops Q rest (a.put o.dst v') w') : wpList P ops Q (o :: rest) a w :=
 wpList_plain hgd fun K hK => wp_append_sl s x t ho base e i z bytes ht hi hz hsize hby hzs v n xs hs hown y m f hy hx h1 h63 hbytes hbase fun v' w' h2 h3 => hK _ _ (h v' w' h2 h3)
end
def keyS : List (List UInt8) := [[97,110,100],[98,101],[98,114,101,97,107],[98,121],[99,97,115,101],[100,101,102,97,117,108,116],[100,111],[101,108,115,101],[101,110,100,99,97,115,101],[101,113,118],[102,97,108,115,101],[102,105,110,105,115,104],[102,111,114],[103,108,111,98,97,108],[103,111,116,111],[105,102],[105,110,116,111],[108,101,116],[108,111,111,112],[109,97,110,105,102,101,115,116],[111,102],[111,114],[114,101,109],[114,101,112,101,97,116],[114,101,112,101,97,116,117,110,116,105,108],[114,101,112,101,97,116,119,104,105,108,101],[114,101,115,117,108,116,105,115],[114,101,116,117,114,110],[115,101,99,116,105,111,110],[115,108,99,116],[115,116,97,116,105,99],[115,119,105,116,99,104,111,110],[116,97,98,108,101],[116,101,115,116],[116,104,101,110],[116,111],[116,114,117,101],[117,110,108,101,115,115],[117,110,116,105,108],[118,97,108,111,102],[118,101,99],[119,104,105,108,101],[120,111,114]]
def keyB (i : Nat) : ByteArray := ⟨(keyS.getD i []).toArray⟩
def keyV : Array Value := #[Value.string ⟨#[97,110,100]⟩,Value.string ⟨#[98,101]⟩,Value.string ⟨#[98,114,101,97,107]⟩,Value.string ⟨#[98,121]⟩,Value.string ⟨#[99,97,115,101]⟩,Value.string ⟨#[100,101,102,97,117,108,116]⟩,Value.string ⟨#[100,111]⟩,Value.string ⟨#[101,108,115,101]⟩,Value.string ⟨#[101,110,100,99,97,115,101]⟩,Value.string ⟨#[101,113,118]⟩,Value.string ⟨#[102,97,108,115,101]⟩,Value.string ⟨#[102,105,110,105,115,104]⟩,Value.string ⟨#[102,111,114]⟩,Value.string ⟨#[103,108,111,98,97,108]⟩,Value.string ⟨#[103,111,116,111]⟩,Value.string ⟨#[105,102]⟩,Value.string ⟨#[105,110,116,111]⟩,Value.string ⟨#[108,101,116]⟩,Value.string ⟨#[108,111,111,112]⟩,Value.string ⟨#[109,97,110,105,102,101,115,116]⟩,Value.string ⟨#[111,102]⟩,Value.string ⟨#[111,114]⟩,Value.string ⟨#[114,101,109]⟩,Value.string ⟨#[114,101,112,101,97,116]⟩,Value.string ⟨#[114,101,112,101,97,116,117,110,116,105,108]⟩,Value.string ⟨#[114,101,112,101,97,116,119,104,105,108,101]⟩,Value.string ⟨#[114,101,115,117,108,116,105,115]⟩,Value.string ⟨#[114,101,116,117,114,110]⟩,Value.string ⟨#[115,101,99,116,105,111,110]⟩,Value.string ⟨#[115,108,99,116]⟩,Value.string ⟨#[115,116,97,116,105,99]⟩,Value.string ⟨#[115,119,105,116,99,104,111,110]⟩,Value.string ⟨#[116,97,98,108,101]⟩,Value.string ⟨#[116,101,115,116]⟩,Value.string ⟨#[116,104,101,110]⟩,Value.string ⟨#[116,111]⟩,Value.string ⟨#[116,114,117,101]⟩,Value.string ⟨#[117,110,108,101,115,115]⟩,Value.string ⟨#[117,110,116,105,108]⟩,Value.string ⟨#[118,97,108,111,102]⟩,Value.string ⟨#[118,101,99]⟩,Value.string ⟨#[119,104,105,108,101]⟩,Value.string ⟨#[120,111,114]⟩]
theorem keyV_at : ∀ i,i < 43 → keyV[i]? = some (.string (keyB i))
 | 0,_ => rfl
 | 1,_ => rfl
 | 2,_ => rfl
 | 3,_ => rfl
 | 4,_ => rfl
 | 5,_ => rfl
 | 6,_ => rfl
 | 7,_ => rfl
 | 8,_ => rfl
 | 9,_ => rfl
 | 10,_ => rfl
 | 11,_ => rfl
 | 12,_ => rfl
 | 13,_ => rfl
 | 14,_ => rfl
 | 15,_ => rfl
 | 16,_ => rfl
 | 17,_ => rfl
 | 18,_ => rfl
 | 19,_ => rfl
 | 20,_ => rfl
 | 21,_ => rfl
 | 22,_ => rfl
 | 23,_ => rfl
 | 24,_ => rfl
 | 25,_ => rfl
 | 26,_ => rfl
 | 27,_ => rfl
 | 28,_ => rfl
 | 29,_ => rfl
 | 30,_ => rfl
 | 31,_ => rfl
 | 32,_ => rfl
 | 33,_ => rfl
 | 34,_ => rfl
 | 35,_ => rfl
 | 36,_ => rfl
 | 37,_ => rfl
 | 38,_ => rfl
 | 39,_ => rfl
 | 40,_ => rfl
 | 41,_ => rfl
 | 42,_ => rfl
 | i + 43,h => absurd h (by omega)
def sgnS : List (List UInt8) := [[40],[41],[123],[125],[44],[59],[58],[33],[37],[64],[43],[45],[42],[47],[38],[124],[126],[63],[61],[126,61],[60],[60,61],[62],[62,61],[60,60],[62,62],[58,61],[45,62]]
def sgnB (i : Nat) : ByteArray := ⟨(sgnS.getD i []).toArray⟩
def sgnV : Array Value := #[Value.string ⟨#[40]⟩,Value.string ⟨#[41]⟩,Value.string ⟨#[123]⟩,Value.string ⟨#[125]⟩,Value.string ⟨#[44]⟩,Value.string ⟨#[59]⟩,Value.string ⟨#[58]⟩,Value.string ⟨#[33]⟩,Value.string ⟨#[37]⟩,Value.string ⟨#[64]⟩,Value.string ⟨#[43]⟩,Value.string ⟨#[45]⟩,Value.string ⟨#[42]⟩,Value.string ⟨#[47]⟩,Value.string ⟨#[38]⟩,Value.string ⟨#[124]⟩,Value.string ⟨#[126]⟩,Value.string ⟨#[63]⟩,Value.string ⟨#[61]⟩,Value.string ⟨#[126,61]⟩,Value.string ⟨#[60]⟩,Value.string ⟨#[60,61]⟩,Value.string ⟨#[62]⟩,Value.string ⟨#[62,61]⟩,Value.string ⟨#[60,60]⟩,Value.string ⟨#[62,62]⟩,Value.string ⟨#[58,61]⟩,Value.string ⟨#[45,62]⟩]
theorem sgnV_at : ∀ i,i < 28 → sgnV[i]? = some (.string (sgnB i))
 | 0,_ => rfl
 | 1,_ => rfl
 | 2,_ => rfl
 | 3,_ => rfl
 | 4,_ => rfl
 | 5,_ => rfl
 | 6,_ => rfl
 | 7,_ => rfl
 | 8,_ => rfl
 | 9,_ => rfl
 | 10,_ => rfl
 | 11,_ => rfl
 | 12,_ => rfl
 | 13,_ => rfl
 | 14,_ => rfl
 | 15,_ => rfl
 | 16,_ => rfl
 | 17,_ => rfl
 | 18,_ => rfl
 | 19,_ => rfl
 | 20,_ => rfl
 | 21,_ => rfl
 | 22,_ => rfl
 | 23,_ => rfl
 | 24,_ => rfl
 | 25,_ => rfl
 | 26,_ => rfl
 | 27,_ => rfl
 | i + 28,h => absurd h (by omega)
def bt (s : ByteArray) (i : Nat) : Nat := (s.data.getD i 0).toNat
theorem bt_lt (s : ByteArray) (i : Nat) : bt s i < 256 := UInt8.toNat_lt _
theorem bt_at (s : ByteArray) (i : Nat) (h : i < s.size) : (s[i]).toNat = bt s i := by
 unfold bt
 rw [Array.getD_eq_getD_getElem?,Array.getElem?_eq_getElem h]; rfl
def HasP (L : Nat) (f : Nat → ByteArray) (s : ByteArray) : Prop := ∃ i,i < L ∧ f i = s
open Classical in
noncomputable def hasB (L : Nat) (f : Nat → ByteArray) (s : ByteArray) : Bool := decide (HasP L f s)
open Classical in
theorem hasB_yes {L : Nat} {f : Nat → ByteArray} {s : ByteArray} {i : Nat} (h : i < L) (e : f i = s) : hasB L f s = true := decide_eq_true ⟨i,h,e⟩
open Classical in
theorem hasB_no {L : Nat} {f : Nat → ByteArray} {s : ByteArray} (h : ∀ i,i < L → f i ≠ s) : hasB L f s = false := decide_eq_false fun ⟨i,hi,e⟩ => h i hi e
def run (p : Nat → Bool) (s : ByteArray) (i : Nat) : Nat := if i < s.size then (if p (bt s i) then run p s (i + 1) else i) else i
termination_by s.size - i
theorem run_inside {p : Nat → Bool} {s : ByteArray} {i : Nat} (h : i < s.size) (hp : p (bt s i) = true) : run p s i = run p s (i + 1) := by rw [run,if_pos h,if_pos hp]
theorem run_out {p : Nat → Bool} {s : ByteArray} {i : Nat} (hp : p (bt s i) = false) : run p s i = i := by rw [run]; split <;> simp [hp]
theorem run_end {p : Nat → Bool} {s : ByteArray} {i : Nat} (h : s.size ≤ i) : run p s i = i := by rw [run,if_neg (by omega)]
theorem run_bd (p : Nat → Bool) (s : ByteArray) : ∀ n i,n = s.size - i → i ≤ s.size → i ≤ run p s i ∧ run p s i ≤ s.size := by
 intro n
 induction n with
 | zero => intro i h hi; rw [run_end (by omega)]; omega
 | succ n ih =>
  intro i h hi
  by_cases hp : p (bt s i) = true
  ·rw [run_inside (by omega) hp]; have := ih (i + 1) (by omega) (by omega); omega
  ·rw [run_out (by simpa using hp)]; omega
theorem run_all (p : Nat → Bool) (s : ByteArray) : ∀ n i,n = s.size - i → i ≤ s.size → (run p s i = s.size ↔ ∀ k,i ≤ k → k < s.size → p (bt s k) = true) := by
 intro n
 induction n with
 | zero => intro i h hi; rw [run_end (by omega)]; exact ⟨fun _ k h1 h2 => by omega,fun _ => by omega⟩
 | succ n ih =>
  intro i h hi
  by_cases hp : p (bt s i) = true
  ·rw [run_inside (by omega) hp,ih (i + 1) (by omega) (by omega)]
   exact ⟨fun h k h1 h2 => by by_cases e : k = i; { rw [e]; exact hp }; exact h k (by omega) h2,fun h k h1 h2 => h k (by omega) h2⟩
  ·rw [run_out (by simpa using hp)]
   exact ⟨fun h => by omega,fun h => absurd (h i (by omega) (by omega)) hp⟩
def small (c : Nat) : Bool := decide (97 ≤ c ∧ c ≤ 122)
def digit (c : Nat) : Bool := decide (48 ≤ c ∧ c ≤ 57)
def part (c : Nat) : Bool := small c || digit c || c == 95
theorem small_yes {c : Nat} (h1 : 97 ≤ c) (h2 : c ≤ 122) : small c = true := decide_eq_true ⟨h1,h2⟩
theorem small_no {c : Nat} (h : c < 97 ∨ 122 < c) : small c = false := decide_eq_false (by omega)
theorem digit_yes {c : Nat} (h1 : 48 ≤ c) (h2 : c ≤ 57) : digit c = true := decide_eq_true ⟨h1,h2⟩
theorem digit_no {c : Nat} (h : c < 48 ∨ 57 < c) : digit c = false := decide_eq_false (by omega)
open Classical in
noncomputable def isNm (s : ByteArray) : Bool := decide (0 < s.size ∧ s.size ≤ 24 ∧ small (bt s 0) = true ∧ (∀ i,i < s.size → part (bt s i) = true) ∧ hasB 43 keyB s = false)
theorem se_yes {a b : ByteArray} (h : a = b) : (a.toList == b.toList) = true := by subst h; simp
theorem se_no {a b : ByteArray} (h : a ≠ b) : (a.toList == b.toList) = false := by
 rw [beq_eq_false_iff_ne]
 intro e
 rw [ByteArray.toList_eq,ByteArray.toList_eq] at e
 exact h (ByteArray.ext (Array.ext' e))
theorem Keys_any (w : World) : Calls prog 225 #[] w fun e w' => ∃ g : Nat,e = .returned (.slice (some ⟨g,0,none⟩) 43 43) ∧ w'.rowIs g 9 43 (fun i => .string (keyB i)) ∧ Fr w w' := by
 go_enter func225,ntmps225
 go_wp2
 go_ret
 exact ⟨w.heap.size,rfl,World.rowIs_alloc w keyV _ _ keyV_at,(Fr.refl _).alloc _⟩
theorem RKeys_any (w : World) : Calls prog 184 #[] w fun e w' => ∃ g : Nat,e = .returned (.slice (some ⟨g,0,none⟩) 43 43) ∧ w'.rowIs g 9 43 (fun i => .string (keyB i)) ∧ Fr w w' := by
 go_enter func184,ntmps184
 go_wp2
 go_ret
 exact ⟨w.heap.size,rfl,World.rowIs_alloc w keyV _ _ keyV_at,(Fr.refl _).alloc _⟩
theorem Signs_any (w : World) : Calls prog 187 #[] w fun e w' => ∃ g : Nat,e = .returned (.slice (some ⟨g,0,none⟩) 28 28) ∧ w'.rowIs g 9 28 (fun i => .string (sgnB i)) ∧ Fr w w' := by
 go_enter func187,ntmps187
 go_wp2
 go_ret
 exact ⟨w.heap.size,rfl,World.rowIs_alloc w sgnV _ _ sgnV_at,(Fr.refl _).alloc _⟩
theorem isSmall_any (c : Nat) (w : World) : Calls prog 230 #[.int .u8 c] w fun e w' => e = .returned (.bool (small c)) ∧ w = w' := by
 by_cases h1 : 97 ≤ c
 ·by_cases h2 : c ≤ 122
  ·rw [small_yes h1 h2]
   have h3 : decide ((c : Int) ≤ 122) = true := decide_eq_true (by omega)
   have h4 : decide ((97 : Int) ≤ c) = true := decide_eq_true (by omega)
   go_enter func230,ntmps230
   go_wp2
   go_ret
   exact ⟨rfl,rfl⟩
  ·rw [small_no (by omega)]
   have h3 : decide ((c : Int) ≤ 122) = false := decide_eq_false (by omega)
   have h4 : decide ((97 : Int) ≤ c) = true := decide_eq_true (by omega)
   go_enter func230,ntmps230
   go_wp2
   go_ret
   exact ⟨rfl,rfl⟩
 ·rw [small_no (by omega)]
  have h4 : decide ((97 : Int) ≤ c) = false := decide_eq_false (by omega)
  go_enter func230,ntmps230
  go_wp2
  go_ret
  exact ⟨rfl,rfl⟩
theorem isDigit_any (c : Nat) (w : World) : Calls prog 232 #[.int .u8 c] w fun e w' => e = .returned (.bool (digit c)) ∧ w = w' := by
 by_cases h1 : 48 ≤ c
 ·by_cases h2 : c ≤ 57
  ·rw [digit_yes h1 h2]
   have h3 : decide ((c : Int) ≤ 57) = true := decide_eq_true (by omega)
   have h4 : decide ((48 : Int) ≤ c) = true := decide_eq_true (by omega)
   go_enter func232,ntmps232
   go_wp2
   go_ret
   exact ⟨rfl,rfl⟩
  ·rw [digit_no (by omega)]
   have h3 : decide ((c : Int) ≤ 57) = false := decide_eq_false (by omega)
   have h4 : decide ((48 : Int) ≤ c) = true := decide_eq_true (by omega)
   go_enter func232,ntmps232
   go_wp2
   go_ret
   exact ⟨rfl,rfl⟩
 ·rw [digit_no (by omega)]
  have h4 : decide ((48 : Int) ≤ c) = false := decide_eq_false (by omega)
  go_enter func232,ntmps232
  go_wp2
  go_ret
  exact ⟨rfl,rfl⟩
theorem RisSmall_any (c : Nat) (w : World) : Calls prog 174 #[.int .u8 c] w fun e w' => e = .returned (.bool (small c)) ∧ w = w' := by
 by_cases h1 : 97 ≤ c
 ·by_cases h2 : c ≤ 122
  ·rw [small_yes h1 h2]
   have h3 : decide ((c : Int) ≤ 122) = true := decide_eq_true (by omega)
   have h4 : decide ((97 : Int) ≤ c) = true := decide_eq_true (by omega)
   go_enter func174,ntmps174
   go_wp2
   go_ret
   exact ⟨rfl,rfl⟩
  ·rw [small_no (by omega)]
   have h3 : decide ((c : Int) ≤ 122) = false := decide_eq_false (by omega)
   have h4 : decide ((97 : Int) ≤ c) = true := decide_eq_true (by omega)
   go_enter func174,ntmps174
   go_wp2
   go_ret
   exact ⟨rfl,rfl⟩
 ·rw [small_no (by omega)]
  have h4 : decide ((97 : Int) ≤ c) = false := decide_eq_false (by omega)
  go_enter func174,ntmps174
  go_wp2
  go_ret
  exact ⟨rfl,rfl⟩
theorem RisDigit_any (c : Nat) (w : World) : Calls prog 176 #[.int .u8 c] w fun e w' => e = .returned (.bool (digit c)) ∧ w = w' := by
 by_cases h1 : 48 ≤ c
 ·by_cases h2 : c ≤ 57
  ·rw [digit_yes h1 h2]
   have h3 : decide ((c : Int) ≤ 57) = true := decide_eq_true (by omega)
   have h4 : decide ((48 : Int) ≤ c) = true := decide_eq_true (by omega)
   go_enter func176,ntmps176
   go_wp2
   go_ret
   exact ⟨rfl,rfl⟩
  ·rw [digit_no (by omega)]
   have h3 : decide ((c : Int) ≤ 57) = false := decide_eq_false (by omega)
   have h4 : decide ((48 : Int) ≤ c) = true := decide_eq_true (by omega)
   go_enter func176,ntmps176
   go_wp2
   go_ret
   exact ⟨rfl,rfl⟩
 ·rw [digit_no (by omega)]
  have h4 : decide ((48 : Int) ≤ c) = false := decide_eq_false (by omega)
  go_enter func176,ntmps176
  go_wp2
  go_ret
  exact ⟨rfl,rfl⟩
theorem isInName_any (c : Nat) (w : World) : Calls prog 248 #[.int .u8 c] w fun e w' => e = .returned (.bool (part c)) ∧ w = w' := by
 obtain ⟨x,hx⟩ : ∃ x,x = small c := ⟨_,rfl⟩
 obtain ⟨y,hy⟩ : ∃ y,y = digit c := ⟨_,rfl⟩
 obtain ⟨z,hz⟩ : ∃ z,z = part c := ⟨_,rfl⟩
 have HZ : Hid (z = (x || y || ((c : Int) == 95))) := by
  refine h_ ?_
  rw [hx,hy,hz]; unfold part; congr 1
  rw [Bool.eq_iff_iff]; simp; omega
 rw [← hz]
 have HX := h_ hx
 have HY := h_ hy
 clear hx hy hz
 cases x <;> cases y
 all_goals
  go_enter func248,ntmps248
  go_wp2_with (first | (go_at_call 230; refine (isSmall_any _ _).mono ?_; rintro e w' ⟨rfl,rfl⟩; rw [← HX.out]) | (go_at_call 232; refine (isDigit_any _ _).mono ?_; rintro e w' ⟨rfl,rfl⟩; rw [← HY.out]))
  go_ret
  exact ⟨by rw [HZ.out]; rfl,rfl⟩
theorem isPart_any (c : Nat) (w : World) : Calls prog 223 #[.int .u8 c] w fun e w' => e = .returned (.bool (part c)) ∧ w = w' := by
 obtain ⟨x,hx⟩ : ∃ x,x = small c := ⟨_,rfl⟩
 obtain ⟨y,hy⟩ : ∃ y,y = digit c := ⟨_,rfl⟩
 obtain ⟨z,hz⟩ : ∃ z,z = part c := ⟨_,rfl⟩
 have HZ : Hid (z = (x || y || ((c : Int) == 95))) := by
  refine h_ ?_
  rw [hx,hy,hz]; unfold part; congr 1
  rw [Bool.eq_iff_iff]; simp; omega
 rw [← hz]
 have HX := h_ hx
 have HY := h_ hy
 clear hx hy hz
 cases x <;> cases y
 all_goals
  go_enter func223,ntmps223
  go_wp2_with (first | (go_at_call 174; refine (RisSmall_any _ _).mono ?_; rintro e w' ⟨rfl,rfl⟩; rw [← HX.out]) | (go_at_call 176; refine (RisDigit_any _ _).mono ?_; rintro e w' ⟨rfl,rfl⟩; rw [← HY.out]))
  go_ret
  exact ⟨by rw [HZ.out]; rfl,rfl⟩
theorem has_any (w : World) (b off L cap : Nat) (hL : L ≤ 1000000) (s : ByteArray) (f : Nat → ByteArray) (hr : Row w b off L (fun i => .string (f i))) : Calls prog 183 #[.slice (some ⟨b,off,none⟩) L cap,.string s] w fun e w' => e = .returned (.bool (hasB L f s)) ∧ w = w' := by
 have HR := h_ hr
 clear hr
 go_enter func183,ntmps183
 go_wp2
 go_loop [5] (fun i => ∃ k : Nat,k ≤ L ∧ i = .int .i64 k ∧ ∀ j,j < k → f j ≠ s) (fun i => L - (intOf i).toNat)
 case atStart => exact ⟨0,Nat.zero_le _,rfl,fun j hj => absurd hj (by omega)⟩
 case round =>
  obtain ⟨k,hk,rfl,hno⟩ := hrel
  have HN := h_ hno
  clear hno
  by_cases hlt : k < L
  ·have hc := HR.out k hlt
   by_cases e : f k = s
   ·have ht := se_yes e
    have HE := h_ (hasB_yes hlt e)
    clear e
    go_wp2
    go_ret
    exact ⟨by rw [HE.out]; rfl,rfl⟩
   ·have ht := se_no e
    have HE := h_ e
    clear e
    go_wp2
    go_round
    case rel => exact ⟨k + 1,by omega,by go_num,fun j hj => by by_cases hjk : j = k; { rw [hjk]; exact HE.out }; exact HN.out j (by omega)⟩
    case measure => simp [intOf]; omega
  ·obtain rfl : k = L := by omega
   go_wp2
   go_ret
   exact ⟨by rw [hasB_no HN.out]; rfl,rfl⟩
def IdxIs (r : Int) (b : Bool) : Prop := (b = true ∧ 0 ≤ r) ∨ (b = false ∧ r < 0)
theorem Index_any (w : World) (b off L cap : Nat) (hL : L ≤ 1000000) (s : ByteArray) (f : Nat → ByteArray) (hr : Row w b off L (fun i => .string (f i))) : Calls prog 265 #[.slice (some ⟨b,off,none⟩) L cap,.string s] w fun e w' => ∃ r : Int,e = .returned (.int .i64 r) ∧ IdxIs r (hasB L f s) ∧ w = w' := by
 have HR := h_ hr
 clear hr
 go_enter func265,ntmps265
 go_wp2
 go_loop [5,8] (fun _ i => ∃ k : Nat,k ≤ L ∧ i = .int .i64 k ∧ ∀ j,j < k → f j ≠ s) (fun _ i => L - (intOf i).toNat)
 case atStart => exact ⟨0,Nat.zero_le _,rfl,fun j hj => absurd hj (by omega)⟩
 case round =>
  obtain ⟨k,hk,rfl,hno⟩ := hrel
  have HN := h_ hno
  clear hno
  by_cases hlt : k < L
  ·have hc := HR.out k hlt
   by_cases e : f k = s
   ·have ht := se_yes e.symm
    have HE := h_ (hasB_yes hlt e)
    clear e
    go_wp2
    go_ret
    exact ⟨k,rfl,.inl ⟨HE.out,by omega⟩,rfl⟩
   ·have ht := se_no (Ne.symm e)
    have HE := h_ e
    clear e
    go_wp2
    go_round
    case rel => exact ⟨k + 1,by omega,by go_num,fun j hj => by by_cases hjk : j = k; { rw [hjk]; exact HE.out }; exact HN.out j (by omega)⟩
    case measure => simp [intOf]; omega
  ·obtain rfl : k = L := by omega
   go_wp2
   go_ret
   exact ⟨-1,rfl,.inr ⟨hasB_no HN.out,by omega⟩,rfl⟩
theorem Contains_any (w : World) (b off L cap : Nat) (hL : L ≤ 1000000) (s : ByteArray) (f : Nat → ByteArray) (hr : Row w b off L (fun i => .string (f i))) : Calls prog 245 #[.slice (some ⟨b,off,none⟩) L cap,.string s] w fun e w' => e = .returned (.bool (hasB L f s)) ∧ w = w' := by
 have HR := h_ hr
 clear hr
 go_enter func245,ntmps245
 go_wp2_with fail
 refine (Index_any _ _ _ _ _ hL _ _ HR.out).mono ?_
 rintro e w' ⟨r,rfl,h,rfl⟩
 rcases h with ⟨h1,h2⟩ | ⟨h1,h2⟩
 all_goals
  have H1 := h_ h1
  clear h1
  first | (have h3 : decide ((0 : Int) ≤ r) = true := decide_eq_true h2) | (have h3 : decide ((0 : Int) ≤ r) = false := decide_eq_false (by omega))
  go_wp2
  go_ret
  exact ⟨by rw [H1.out]; simp [*],rfl⟩
theorem isKey_any (w : World) (s : ByteArray) : Calls prog 249 #[.string s] w fun e w' => e = .returned (.bool (hasB 43 keyB s)) ∧ Fr w w' := by
 go_enter func249,ntmps249
 go_wp2_with fail
 refine (Keys_any _).mono ?_
 rintro e w1 ⟨g,rfl,hr,hf⟩
 have HR := h_ hr
 clear hr
 go_wp2_with fail
 refine (Contains_any _ g 0 43 43 (by omega) s keyB (fun i hi => by rw [Nat.zero_add]; exact HR.out.cell hi)).mono ?_
 rintro e w2 ⟨rfl,rfl⟩
 go_wp2
 go_ret
 exact ⟨rfl,hf⟩
def hexc (c : Nat) : Bool := digit c || (decide (97 ≤ c ∧ c ≤ 102)) || (decide (65 ≤ c ∧ c ≤ 70))
def blank (c : Nat) : Bool := decide (c = 32 ∨ c = 9 ∨ c = 10)
def inl (c : Nat) : Bool := decide (c ≠ 10)
def plain (c : Nat) : Bool := decide (32 ≤ c ∧ c ≤ 126)
theorem isPlain_any (c : Nat) (w : World) : Calls prog 208 #[.int .u8 c] w fun e w' => e = .returned (.bool (plain c)) ∧ w = w' := by
 by_cases h1 : 32 ≤ c
 ·by_cases h2 : c ≤ 126
  ·rw [show plain c = true from decide_eq_true ⟨h1,h2⟩]
   have h3 : decide ((c : Int) ≤ 126) = true := decide_eq_true (by omega)
   have h4 : decide ((32 : Int) ≤ c) = true := decide_eq_true (by omega)
   go_enter func208,ntmps208
   go_wp2
   go_ret
   exact ⟨rfl,rfl⟩
  ·rw [show plain c = false from decide_eq_false (by omega)]
   have h3 : decide ((c : Int) ≤ 126) = false := decide_eq_false (by omega)
   have h4 : decide ((32 : Int) ≤ c) = true := decide_eq_true (by omega)
   go_enter func208,ntmps208
   go_wp2
   go_ret
   exact ⟨rfl,rfl⟩
 ·rw [show plain c = false from decide_eq_false (by omega)]
  have h4 : decide ((32 : Int) ≤ c) = false := decide_eq_false (by omega)
  go_enter func208,ntmps208
  go_wp2
  go_ret
  exact ⟨rfl,rfl⟩
theorem isInLine_any (c : Nat) (w : World) : Calls prog 229 #[.int .u8 c] w fun e w' => e = .returned (.bool (inl c)) ∧ w = w' := by
 by_cases h : c = 10
 ·rw [show inl c = false from decide_eq_false (by omega)]
  have h3 : ((c : Int) != 10) = false := by subst h; rfl
  clear h
  go_enter func229,ntmps229
  go_wp2
  go_ret
  exact ⟨by simp,rfl⟩
 ·rw [show inl c = true from decide_eq_true h]
  have h3 : ((c : Int) != 10) = true := by rw [bne_iff_ne]; omega
  clear h
  go_enter func229,ntmps229
  go_wp2
  go_ret
  exact ⟨by simp,rfl⟩
theorem isBlank_any (c : Nat) (w : World) : Calls prog 227 #[.int .u8 c] w fun e w' => e = .returned (.bool (blank c)) ∧ w = w' := by
 obtain ⟨x,hx⟩ : ∃ x,x = ((c : Int) == 32) := ⟨_,rfl⟩
 obtain ⟨y,hy⟩ : ∃ y,y = ((c : Int) == 9) := ⟨_,rfl⟩
 obtain ⟨z,hz⟩ : ∃ z,z = ((c : Int) == 10) := ⟨_,rfl⟩
 have HZ : Hid (blank c = (x || y || z)) := by
  refine h_ ?_
  rw [hx,hy,hz]; unfold blank
  rw [Bool.eq_iff_iff]; simp; omega
 cases x <;> cases y <;> cases z
 all_goals
  have h1 := hx.symm
  have h2 := hy.symm
  have h3 := hz.symm
  clear hx hy hz
  go_enter func227,ntmps227
  go_wp2
  go_ret
  exact ⟨by rw [HZ.out]; simp [*],rfl⟩
theorem isBase16_any (c : Nat) (w : World) : Calls prog 259 #[.int .u8 c] w fun e w' => e = .returned (.bool (hexc c)) ∧ w = w' := by
 obtain ⟨d,hd⟩ : ∃ d,d = digit c := ⟨_,rfl⟩
 obtain ⟨x,hx⟩ : ∃ x,x = decide ((97 : Int) ≤ c) := ⟨_,rfl⟩
 obtain ⟨y,hy⟩ : ∃ y,y = decide ((c : Int) ≤ 102) := ⟨_,rfl⟩
 obtain ⟨z,hz⟩ : ∃ z,z = decide ((65 : Int) ≤ c) := ⟨_,rfl⟩
 obtain ⟨t,ht⟩ : ∃ t,t = decide ((c : Int) ≤ 70) := ⟨_,rfl⟩
 have HZ : Hid (hexc c = (d || (x && y) || (z && t))) := by
  refine h_ ?_
  have e1 : decide (97 ≤ c ∧ c ≤ 102) = (decide ((97 : Int) ≤ c) && decide ((c : Int) ≤ 102)) := by rw [Bool.eq_iff_iff]; simp; omega
  have e2 : decide (65 ≤ c ∧ c ≤ 70) = (decide ((65 : Int) ≤ c) && decide ((c : Int) ≤ 70)) := by rw [Bool.eq_iff_iff]; simp; omega
  rw [hd,hx,hy,hz,ht]; unfold hexc
  rw [e1,e2]
 have HD := h_ hd
 clear hd
 cases d <;> cases x <;> cases y <;> cases z <;> cases t
 all_goals
  have h1 := hx.symm
  have h2 := hy.symm
  have h3 := hz.symm
  have h4 := ht.symm
  clear hx hy hz ht
  go_enter func259,ntmps259
  go_wp2_with (go_at_call 232; refine (isDigit_any _ _).mono ?_; rintro e w' ⟨rfl,rfl⟩; rw [← HD.out])
  go_ret
  exact ⟨by rw [HZ.out]; first | rfl | simp [*],rfl⟩
theorem behindName_any (s : ByteArray) (at_ : Nat) (hat : at_ ≤ s.size) (hs : s.size ≤ 9223372036854775806) (w : World) :
 Calls prog 226 #[.string s,.int .i64 at_,.func (.func 248) #[] #[]] w fun e w' => e = .returned (.int .i64 (run part s at_ : Nat)) ∧ w = w' := by
 obtain ⟨r,hr⟩ : ∃ r,r = run part s at_ := ⟨_,rfl⟩
 rw [← hr]
 have HR := h_ hr
 clear hr
 go_enter func226,ntmps226
 go_wp2
 go_loop [1] (fun i => ∃ k : Nat,k ≤ s.size ∧ i = .int .i64 k ∧ r = run part s k) (fun i => s.size - (intOf i).toNat)
 case atStart => exact ⟨at_,hat,rfl,HR.out⟩
 case round =>
  obtain ⟨k,hk,rfl,hr⟩ := hrel
  have HK := h_ hr
  clear hr
  by_cases hlt : k < s.size
  ·have hb := bt_at s k hlt
   cases hp : part (bt s k) with
   | true =>
    have HP := h_ hp
    clear hp
    go_wp2_with (go_at_call 248; refine (isInName_any _ _).mono ?_; rintro e w' ⟨rfl,rfl⟩; rw [HP.out])
    go_round
    case rel => exact ⟨k + 1,by omega,by go_num,by rw [HK.out,run_inside hlt HP.out]⟩
    case measure => simp [intOf]; omega
   | false =>
    have HP := h_ hp
    clear hp
    go_wp2_with (go_at_call 248; refine (isInName_any _ _).mono ?_; rintro e w' ⟨rfl,rfl⟩; rw [HP.out])
    go_ret
    exact ⟨ret_int (by rw [HK.out,run_out HP.out]),rfl⟩
  ·obtain rfl : k = s.size := by omega
   go_wp2
   go_ret
   exact ⟨ret_int (by rw [HK.out,run_end (Nat.le_refl _)]),rfl⟩
theorem behindDigit_any (s : ByteArray) (at_ : Nat) (hat : at_ ≤ s.size) (hs : s.size ≤ 9223372036854775806) (w : World) :
 Calls prog 226 #[.string s,.int .i64 at_,.func (.func 232) #[] #[]] w fun e w' => e = .returned (.int .i64 (run digit s at_ : Nat)) ∧ w = w' := by
 obtain ⟨r,hr⟩ : ∃ r,r = run digit s at_ := ⟨_,rfl⟩
 rw [← hr]
 have HR := h_ hr
 clear hr
 go_enter func226,ntmps226
 go_wp2
 go_loop [1] (fun i => ∃ k : Nat,k ≤ s.size ∧ i = .int .i64 k ∧ r = run digit s k) (fun i => s.size - (intOf i).toNat)
 case atStart => exact ⟨at_,hat,rfl,HR.out⟩
 case round =>
  obtain ⟨k,hk,rfl,hr⟩ := hrel
  have HK := h_ hr
  clear hr
  by_cases hlt : k < s.size
  ·have hb := bt_at s k hlt
   cases hp : digit (bt s k) with
   | true =>
    have HP := h_ hp
    clear hp
    go_wp2_with (go_at_call 232; refine (isDigit_any _ _).mono ?_; rintro e w' ⟨rfl,rfl⟩; rw [HP.out])
    go_round
    case rel => exact ⟨k + 1,by omega,by go_num,by rw [HK.out,run_inside hlt HP.out]⟩
    case measure => simp [intOf]; omega
   | false =>
    have HP := h_ hp
    clear hp
    go_wp2_with (go_at_call 232; refine (isDigit_any _ _).mono ?_; rintro e w' ⟨rfl,rfl⟩; rw [HP.out])
    go_ret
    exact ⟨ret_int (by rw [HK.out,run_out HP.out]),rfl⟩
  ·obtain rfl : k = s.size := by omega
   go_wp2
   go_ret
   exact ⟨ret_int (by rw [HK.out,run_end (Nat.le_refl _)]),rfl⟩
theorem behindHex_any (s : ByteArray) (at_ : Nat) (hat : at_ ≤ s.size) (hs : s.size ≤ 9223372036854775806) (w : World) :
 Calls prog 226 #[.string s,.int .i64 at_,.func (.func 259) #[] #[]] w fun e w' => e = .returned (.int .i64 (run hexc s at_ : Nat)) ∧ w = w' := by
 obtain ⟨r,hr⟩ : ∃ r,r = run hexc s at_ := ⟨_,rfl⟩
 rw [← hr]
 have HR := h_ hr
 clear hr
 go_enter func226,ntmps226
 go_wp2
 go_loop [1] (fun i => ∃ k : Nat,k ≤ s.size ∧ i = .int .i64 k ∧ r = run hexc s k) (fun i => s.size - (intOf i).toNat)
 case atStart => exact ⟨at_,hat,rfl,HR.out⟩
 case round =>
  obtain ⟨k,hk,rfl,hr⟩ := hrel
  have HK := h_ hr
  clear hr
  by_cases hlt : k < s.size
  ·have hb := bt_at s k hlt
   cases hp : hexc (bt s k) with
   | true =>
    have HP := h_ hp
    clear hp
    go_wp2_with (go_at_call 259; refine (isBase16_any _ _).mono ?_; rintro e w' ⟨rfl,rfl⟩; rw [HP.out])
    go_round
    case rel => exact ⟨k + 1,by omega,by go_num,by rw [HK.out,run_inside hlt HP.out]⟩
    case measure => simp [intOf]; omega
   | false =>
    have HP := h_ hp
    clear hp
    go_wp2_with (go_at_call 259; refine (isBase16_any _ _).mono ?_; rintro e w' ⟨rfl,rfl⟩; rw [HP.out])
    go_ret
    exact ⟨ret_int (by rw [HK.out,run_out HP.out]),rfl⟩
  ·obtain rfl : k = s.size := by omega
   go_wp2
   go_ret
   exact ⟨ret_int (by rw [HK.out,run_end (Nat.le_refl _)]),rfl⟩
theorem behindBlank_any (s : ByteArray) (at_ : Nat) (hat : at_ ≤ s.size) (hs : s.size ≤ 9223372036854775806) (w : World) :
 Calls prog 226 #[.string s,.int .i64 at_,.func (.func 227) #[] #[]] w fun e w' => e = .returned (.int .i64 (run blank s at_ : Nat)) ∧ w = w' := by
 obtain ⟨r,hr⟩ : ∃ r,r = run blank s at_ := ⟨_,rfl⟩
 rw [← hr]
 have HR := h_ hr
 clear hr
 go_enter func226,ntmps226
 go_wp2
 go_loop [1] (fun i => ∃ k : Nat,k ≤ s.size ∧ i = .int .i64 k ∧ r = run blank s k) (fun i => s.size - (intOf i).toNat)
 case atStart => exact ⟨at_,hat,rfl,HR.out⟩
 case round =>
  obtain ⟨k,hk,rfl,hr⟩ := hrel
  have HK := h_ hr
  clear hr
  by_cases hlt : k < s.size
  ·have hb := bt_at s k hlt
   cases hp : blank (bt s k) with
   | true =>
    have HP := h_ hp
    clear hp
    go_wp2_with (go_at_call 227; refine (isBlank_any _ _).mono ?_; rintro e w' ⟨rfl,rfl⟩; rw [HP.out])
    go_round
    case rel => exact ⟨k + 1,by omega,by go_num,by rw [HK.out,run_inside hlt HP.out]⟩
    case measure => simp [intOf]; omega
   | false =>
    have HP := h_ hp
    clear hp
    go_wp2_with (go_at_call 227; refine (isBlank_any _ _).mono ?_; rintro e w' ⟨rfl,rfl⟩; rw [HP.out])
    go_ret
    exact ⟨ret_int (by rw [HK.out,run_out HP.out]),rfl⟩
  ·obtain rfl : k = s.size := by omega
   go_wp2
   go_ret
   exact ⟨ret_int (by rw [HK.out,run_end (Nat.le_refl _)]),rfl⟩
theorem behindLine_any (s : ByteArray) (at_ : Nat) (hat : at_ ≤ s.size) (hs : s.size ≤ 9223372036854775806) (w : World) :
 Calls prog 226 #[.string s,.int .i64 at_,.func (.func 229) #[] #[]] w fun e w' => e = .returned (.int .i64 (run inl s at_ : Nat)) ∧ w = w' := by
 obtain ⟨r,hr⟩ : ∃ r,r = run inl s at_ := ⟨_,rfl⟩
 rw [← hr]
 have HR := h_ hr
 clear hr
 go_enter func226,ntmps226
 go_wp2
 go_loop [1] (fun i => ∃ k : Nat,k ≤ s.size ∧ i = .int .i64 k ∧ r = run inl s k) (fun i => s.size - (intOf i).toNat)
 case atStart => exact ⟨at_,hat,rfl,HR.out⟩
 case round =>
  obtain ⟨k,hk,rfl,hr⟩ := hrel
  have HK := h_ hr
  clear hr
  by_cases hlt : k < s.size
  ·have hb := bt_at s k hlt
   cases hp : inl (bt s k) with
   | true =>
    have HP := h_ hp
    clear hp
    go_wp2_with (go_at_call 229; refine (isInLine_any _ _).mono ?_; rintro e w' ⟨rfl,rfl⟩; rw [HP.out])
    go_round
    case rel => exact ⟨k + 1,by omega,by go_num,by rw [HK.out,run_inside hlt HP.out]⟩
    case measure => simp [intOf]; omega
   | false =>
    have HP := h_ hp
    clear hp
    go_wp2_with (go_at_call 229; refine (isInLine_any _ _).mono ?_; rintro e w' ⟨rfl,rfl⟩; rw [HP.out])
    go_ret
    exact ⟨ret_int (by rw [HK.out,run_out HP.out]),rfl⟩
  ·obtain rfl : k = s.size := by omega
   go_wp2
   go_ret
   exact ⟨ret_int (by rw [HK.out,run_end (Nat.le_refl _)]),rfl⟩
def esc (c : Nat) : Nat := if c = 110 then 10 else if c = 116 then 9 else if c = 115 then 32 else if c = 42 ∨ c = 39 ∨ c = 34 then c else 0
def escOk (c : Nat) : Bool := decide (c = 110 ∨ c = 116 ∨ c = 115 ∨ c = 42 ∨ c = 39 ∨ c = 34)
theorem escaped_any (c : Nat) (w : World) : Calls prog 269 #[.int .u8 c] w fun e w' => e = .returned (.tuple #[.int .u8 (esc c : Nat),.bool (escOk c)]) ∧ w = w' := by
 by_cases h1 : c = 110
 ·subst h1; go_enter func269,ntmps269
  go_wp2; go_ret2; exact ⟨rfl,rfl⟩
 by_cases h2 : c = 116
 ·subst h2; go_enter func269,ntmps269
  go_wp2; go_ret2; exact ⟨rfl,rfl⟩
 by_cases h3 : c = 115
 ·subst h3; go_enter func269,ntmps269
  go_wp2; go_ret2; exact ⟨rfl,rfl⟩
 by_cases h4 : c = 42
 ·subst h4; go_enter func269,ntmps269
  go_wp2; go_ret2; exact ⟨rfl,rfl⟩
 by_cases h5 : c = 39
 ·subst h5; go_enter func269,ntmps269
  go_wp2; go_ret2; exact ⟨rfl,rfl⟩
 by_cases h6 : c = 34
 ·subst h6; go_enter func269,ntmps269
  go_wp2; go_ret2; exact ⟨rfl,rfl⟩
 rw [show esc c = 0 from by unfold esc; rw [if_neg h1,if_neg h2,if_neg h3,if_neg (by omega)],show escOk c = false from decide_eq_false (by omega)]
 have e1 : ((c : Int) == 110) = false := by rw [beq_eq_false_iff_ne]; omega
 have e2 : ((c : Int) == 116) = false := by rw [beq_eq_false_iff_ne]; omega
 have e3 : ((c : Int) == 115) = false := by rw [beq_eq_false_iff_ne]; omega
 have e4 : ((c : Int) == 42) = false := by rw [beq_eq_false_iff_ne]; omega
 have e5 : ((c : Int) == 39) = false := by rw [beq_eq_false_iff_ne]; omega
 have e6 : ((c : Int) == 34) = false := by rw [beq_eq_false_iff_ne]; omega
 clear h1 h2 h3 h4 h5 h6
 go_enter func269,ntmps269
 go_wp2; go_ret2; exact ⟨rfl,rfl⟩
structure Tk where
 k : Nat
 t : ByteArray
 n : Int
 e : Nat
 er : Nat
def nul : ByteArray := ⟨#[]⟩
def bad (x : Nat) : Tk := ⟨0,nul,0,0,x⟩
noncomputable def wordT (s : ByteArray) (a : Nat) : Tk :=
 if hasB 43 keyB (s.extract a (run part s a)) = true then ⟨4,s.extract a (run part s a),0,run part s a,0⟩
 else if 24 < (s.extract a (run part s a)).size then bad 2 else ⟨1,s.extract a (run part s a),0,run part s a,0⟩
def dig (c : Nat) : Nat := if c ≤ 57 then c - 48 else if 97 ≤ c then c - 87 else c - 55
def val (b : Nat) (s : ByteArray) (a : Nat) : Nat → Nat
 | 0 => 0
 | k + 1 => val b s a k * b + dig (bt s (a + k))
def numT (s : ByteArray) (a : Nat) : Tk := if 2147483647 < val 10 s a (run digit s a - a) then bad 22 else ⟨2,nul,(val 10 s a (run digit s a - a) : Nat),run digit s a,0⟩
def sg (v : Nat) : Int := if 2147483648 ≤ v then (v : Int) - 4294967296 else v
def hexT (s : ByteArray) (a : Nat) : Tk :=
 if run hexc s (a + 1) = a + 1 then bad 20
 else if 4294967295 < val 16 s (a + 1) (run hexc s (a + 1) - (a + 1)) then bad 22 else ⟨2,nul,sg (val 16 s (a + 1) (run hexc s (a + 1) - (a + 1))),run hexc s (a + 1),0⟩
structure In where
 c : Nat
 nx : Nat
 ok : Bool
def ins (s : ByteArray) (a q : Nat) : In :=
 if s.size ≤ a then ⟨0,0,false⟩ else if bt s a = 42 then (if s.size ≤ a + 1 then ⟨0,0,false⟩ else ⟨esc (bt s (a + 1)),a + 2,escOk (bt s (a + 1))⟩)
 else ⟨bt s a,a + 1,plain (bt s a) && (bt s a != q)⟩
def hasC (s : ByteArray) (a q : Nat) : Bool := decide (a < s.size ∧ bt s a = q)
theorem ins_ok {s : ByteArray} {a q : Nat} (h : (ins s a q).ok = true) : a < s.size ∧ a < (ins s a q).nx ∧ (ins s a q).nx ≤ s.size := by
 unfold ins at h ⊢
 by_cases h1 : s.size ≤ a
 ·rw [if_pos h1] at h; simp at h
 ·rw [if_neg h1] at h ⊢
  by_cases h2 : bt s a = 42
  ·rw [if_pos h2] at h ⊢
   by_cases h3 : s.size ≤ a + 1
   ·rw [if_pos h3] at h; simp at h
   ·rw [if_neg h3]; simp only; omega
  ·rw [if_neg h2]; simp only; omega
def chrT (s : ByteArray) (a : Nat) : Tk := if (ins s (a + 1) 39).ok = true ∧ hasC s (ins s (a + 1) 39).nx 39 = true then ⟨2,nul,((ins s (a + 1) 39).c : Nat),(ins s (a + 1) 39).nx + 1,0⟩ else bad 21
def strO (s : ByteArray) (a : Nat) : Option (List Nat × Nat) :=
 if hasC s a 34 = true then some ([],a)
 else if h : (ins s a 34).ok = true then (strO s (ins s a 34).nx).map (fun p => ((ins s a 34).c :: p.1,p.2)) else none
termination_by s.size - a
decreasing_by have := ins_ok h; omega
theorem strO_end {s : ByteArray} {a : Nat} (h : hasC s a 34 = true) : strO s a = some ([],a) := by rw [strO,if_pos h]
theorem strO_no {s : ByteArray} {a : Nat} (h : hasC s a 34 = false) (h2 : (ins s a 34).ok = false) : strO s a = none := by rw [strO,if_neg (by simp [h]),dif_neg (by simp [h2])]
theorem strO_step {s : ByteArray} {a : Nat} (h : hasC s a 34 = false) (h2 : (ins s a 34).ok = true) : strO s a = (strO s (ins s a 34).nx).map (fun p => ((ins s a 34).c :: p.1,p.2)) := by rw [strO,if_neg (by simp [h]),dif_pos h2]
def ofL (l : List Nat) : ByteArray := strOfNums (l.map fun (c : Nat) => (c : Int))
def strT (s : ByteArray) (a : Nat) : Tk :=
 match strO s (a + 1) with
 | none => bad 21
 | some p => if 100 < p.1.length then bad 2 else ⟨3,ofL p.1,0,p.2 + 1,0⟩
noncomputable def sgnT (s : ByteArray) (a : Nat) : Tk :=
 if a + 2 ≤ s.size ∧ hasB 28 sgnB (s.extract a (a + 2)) = true then ⟨5,s.extract a (a + 2),0,a + 2,0⟩
 else if a + 1 ≤ s.size ∧ hasB 28 sgnB (s.extract a (a + 1)) = true then ⟨5,s.extract a (a + 1),0,a + 1,0⟩ else bad 20
noncomputable def tokAt (s : ByteArray) (a : Nat) : Tk :=
 if small (bt s a) = true then wordT s a else if digit (bt s a) = true then numT s a else if bt s a = 35 then hexT s a
 else if bt s a = 39 then chrT s a else if bt s a = 34 then strT s a else sgnT s a
def slash (s : ByteArray) (a : Nat) : Bool := decide (a + 2 ≤ s.size ∧ bt s a = 47 ∧ bt s (a + 1) = 47)
theorem run_ge (p : Nat → Bool) (s : ByteArray) (a : Nat) : a ≤ run p s a := by
 by_cases h : a ≤ s.size
 ·exact (run_bd p s _ a rfl h).1
 ·rw [run_end (by omega)]; omega
theorem slash_line {s : ByteArray} {a : Nat} (h : slash s a = true) : a < run inl s a := by
 have h := of_decide_eq_true h
 rw [run_inside (by omega) (by rw [h.2.1]; rfl)]
 exact run_ge _ _ _
def skp (s : ByteArray) (a : Nat) : Nat := if h : slash s (run blank s a) = true then skp s (run inl s (run blank s a)) else run blank s a
termination_by s.size - a
decreasing_by
 have h1 := slash_line h
 have h2 := run_ge blank s a
 have h3 := of_decide_eq_true h
 omega
theorem skp_go {s : ByteArray} {a : Nat} (h : slash s (run blank s a) = true) : skp s a = skp s (run inl s (run blank s a)) := by rw [skp,dif_pos h]
theorem skp_stop {s : ByteArray} {a : Nat} (h : slash s (run blank s a) = false) : skp s a = run blank s a := by rw [skp,dif_neg (by simp [h])]
theorem skp_bd (s : ByteArray) : ∀ n a,n = s.size - a → a ≤ s.size → a ≤ skp s a ∧ skp s a ≤ s.size := by
 intro n
 induction n using Nat.strongRecOn with
 | ind n ih =>
  intro a hn ha
  have h1 := run_bd blank s _ a rfl ha
  cases hs : slash s (run blank s a) with
  | true =>
   rw [skp_go hs]
   have h2 := slash_line hs
   have h3 := run_bd inl s _ (run blank s a) rfl h1.2
   have := ih (s.size - run inl s (run blank s a)) (by omega) _ rfl h3.2
   omega
  | false => rw [skp_stop hs]; exact h1
structure Tp where
 k : Nat
 t : ByteArray
 n : Int
 a : Nat
structure Sc where
 l : List Tp
 er : Nat
 a : Nat
noncomputable def scG (s : ByteArray) (acc : List Tp) (a : Nat) : Sc :=
 if a < s.size then
  (if (tokAt s a).er ≠ 0 then ⟨[],(tokAt s a).er,a⟩ else if acc.length = 20000 then ⟨[],2,a⟩
   else if h : a < skp s (tokAt s a).e then scG s (acc ++ [⟨(tokAt s a).k,(tokAt s a).t,(tokAt s a).n,a⟩]) (skp s (tokAt s a).e) else ⟨[],0,0⟩)
 else if acc.length = 20000 then ⟨[],2,s.size⟩ else ⟨acc ++ [⟨0,nul,0,s.size⟩],0,0⟩
termination_by s.size - a
noncomputable def scan (s : ByteArray) : Sc := if 40000 < s.size then ⟨[],2,0⟩ else scG s [] (skp s 0)
theorem wordT_e {s : ByteArray} {a : Nat} (ha : a < s.size) (hs : small (bt s a) = true) (h : (wordT s a).er = 0) : a < (wordT s a).e ∧ (wordT s a).e ≤ s.size := by
 have h1 : a < run part s a ∧ run part s a ≤ s.size := by
  rw [run_inside ha (by unfold part; rw [hs]; rfl)]
  have := run_bd part s _ (a + 1) rfl (by omega); omega
 unfold wordT at h ⊢
 split
 ·exact h1
 ·split
  ·rename_i h2 h3; rw [if_neg h2,if_pos h3] at h; simp [bad] at h
  ·exact h1
theorem numT_e {s : ByteArray} {a : Nat} (ha : a < s.size) (hs : digit (bt s a) = true) (h : (numT s a).er = 0) : a < (numT s a).e ∧ (numT s a).e ≤ s.size := by
 have h1 : a < run digit s a ∧ run digit s a ≤ s.size := by
  rw [run_inside ha hs]
  have := run_bd digit s _ (a + 1) rfl (by omega); omega
 unfold numT at h ⊢
 split
 ·rename_i h2; rw [if_pos h2] at h; simp [bad] at h
 ·exact h1
theorem hexT_e {s : ByteArray} {a : Nat} (ha : a < s.size) (h : (hexT s a).er = 0) : a < (hexT s a).e ∧ (hexT s a).e ≤ s.size := by
 have h1 := run_bd hexc s _ (a + 1) rfl (by omega)
 unfold hexT at h ⊢
 split
 ·rename_i h2; rw [if_pos h2] at h; simp [bad] at h
 ·split
  ·rename_i h2 h3; rw [if_neg h2,if_pos h3] at h; simp [bad] at h
  ·simp only; omega
theorem chrT_e {s : ByteArray} {a : Nat} (h : (chrT s a).er = 0) : a < (chrT s a).e ∧ (chrT s a).e ≤ s.size := by
 unfold chrT at h ⊢
 split
 ·rename_i h2
  have h3 := ins_ok h2.1
  have h4 := of_decide_eq_true h2.2
  simp only; omega
 ·rename_i h2; rw [if_neg h2] at h; simp [bad] at h
theorem strO_bd {s : ByteArray} : ∀ n a p,n = s.size - a → strO s a = some p → a ≤ p.2 ∧ p.2 < s.size := by
 intro n
 induction n using Nat.strongRecOn with
 | ind n ih =>
  intro a p hn h
  cases h1 : hasC s a 34 with
  | true =>
   rw [strO_end h1] at h
   injection h with h; subst h
   exact ⟨Nat.le_refl _,(of_decide_eq_true h1).1⟩
  | false =>
   cases h2 : (ins s a 34).ok with
   | false => rw [strO_no h1 h2] at h; cases h
   | true =>
    rw [strO_step h1 h2] at h
    obtain ⟨q,hq,rfl⟩ := Option.map_eq_some_iff.1 h
    have h3 := ins_ok h2
    have := ih (s.size - (ins s a 34).nx) (by omega) _ q rfl hq
    simp only; omega
theorem strT_e {s : ByteArray} {a : Nat} (h : (strT s a).er = 0) : a < (strT s a).e ∧ (strT s a).e ≤ s.size := by
 unfold strT at h ⊢
 cases h1 : strO s (a + 1) with
 | none => rw [h1] at h; simp [bad] at h
 | some p =>
  rw [h1] at h
  have h2 := strO_bd _ _ _ rfl h1
  simp only at h ⊢
  split
  ·rename_i h3; rw [if_pos h3] at h; simp [bad] at h
  ·simp only; omega
theorem sgnT_e {s : ByteArray} {a : Nat} (h : (sgnT s a).er = 0) : a < (sgnT s a).e ∧ (sgnT s a).e ≤ s.size := by
 unfold sgnT at h ⊢
 split
 ·rename_i h2; simp only; omega
 ·split
  ·rename_i h2 h3; simp only; omega
  ·rename_i h2 h3; rw [if_neg h2,if_neg h3] at h; simp [bad] at h
theorem tokAt_e {s : ByteArray} {a : Nat} (ha : a < s.size) (h : (tokAt s a).er = 0) : a < (tokAt s a).e ∧ (tokAt s a).e ≤ s.size := by
 unfold tokAt at h ⊢
 split
 ·rename_i h1; rw [if_pos h1] at h; exact wordT_e ha h1 h
 ·rename_i h1; rw [if_neg h1] at h
  split
  ·rename_i h2; rw [if_pos h2] at h; exact numT_e ha h2 h
  ·rename_i h2; rw [if_neg h2] at h
   split
   ·rename_i h3; rw [if_pos h3] at h; exact hexT_e ha h
   ·rename_i h3; rw [if_neg h3] at h
    split
    ·rename_i h4; rw [if_pos h4] at h; exact chrT_e h
    ·rename_i h4; rw [if_neg h4] at h
     split
     ·rename_i h5; rw [if_pos h5] at h; exact strT_e h
     ·rename_i h5; rw [if_neg h5] at h; exact sgnT_e h
theorem scG_err {s : ByteArray} {acc : List Tp} {a : Nat} (ha : a < s.size) (h : (tokAt s a).er ≠ 0) : scG s acc a = ⟨[],(tokAt s a).er,a⟩ := by rw [scG,if_pos ha,if_pos h]
theorem scG_full {s : ByteArray} {acc : List Tp} {a : Nat} (ha : a < s.size) (h : (tokAt s a).er = 0) (hl : acc.length = 20000) : scG s acc a = ⟨[],2,a⟩ := by rw [scG,if_pos ha,if_neg (by simp [h]),if_pos hl]
theorem scG_step {s : ByteArray} {acc : List Tp} {a : Nat} (ha : a < s.size) (h : (tokAt s a).er = 0) (hl : acc.length ≠ 20000) : scG s acc a = scG s (acc ++ [⟨(tokAt s a).k,(tokAt s a).t,(tokAt s a).n,a⟩]) (skp s (tokAt s a).e) := by
 have h1 := tokAt_e ha h
 have h2 := skp_bd s _ _ rfl h1.2
 rw [scG,if_pos ha,if_neg (by simp [h]),if_neg hl,dif_pos (by omega)]
theorem scG_end {s : ByteArray} {acc : List Tp} {a : Nat} (ha : ¬ a < s.size) (hl : acc.length ≠ 20000) : scG s acc a = ⟨acc ++ [⟨0,nul,0,s.size⟩],0,0⟩ := by rw [scG,if_neg ha,if_neg hl]
theorem scG_over {s : ByteArray} {acc : List Tp} {a : Nat} (ha : ¬ a < s.size) (hl : acc.length = 20000) : scG s acc a = ⟨[],2,s.size⟩ := by rw [scG,if_neg ha,if_pos hl]
def pre (s p : ByteArray) : Bool := decide (p.size ≤ s.size ∧ s.extract 0 p.size = p)
theorem sPrefix_any (s p : ByteArray) (hs : s.size ≤ 9223372036854775806) (hp : p.size ≤ 9223372036854775806) (w : World) : Calls prog 257 #[.string s,.string p] w fun e w' => e = .returned (.bool (pre s p)) ∧ w = w' := by
 by_cases h1 : p.size ≤ s.size
 ·have h3 : decide (p.size ≤ s.size) = true := decide_eq_true h1
  by_cases h2 : s.extract 0 p.size = p
  ·have HR : Hid (pre s p = true) := h_ (decide_eq_true ⟨h1,h2⟩)
   have ht := se_yes h2
   clear h2
   go_enter func257,ntmps257
   go_wp2
   go_ret
   exact ⟨by rw [HR.out]; rfl,rfl⟩
  ·have HR : Hid (pre s p = false) := h_ (decide_eq_false fun h => h2 h.2)
   have ht := se_no h2
   clear h2
   go_enter func257,ntmps257
   go_wp2
   go_ret
   exact ⟨by rw [HR.out]; rfl,rfl⟩
 ·have HR : Hid (pre s p = false) := h_ (decide_eq_false fun h => h1 h.1)
  have h3 : decide (p.size ≤ s.size) = false := decide_eq_false h1
  go_enter func257,ntmps257
  go_wp2
  go_ret
  exact ⟨by rw [HR.out]; rfl,rfl⟩
theorem HasPrefix_any (s p : ByteArray) (hs : s.size ≤ 9223372036854775806) (hp : p.size ≤ 9223372036854775806) (w : World) : Calls prog 228 #[.string s,.string p] w fun e w' => e = .returned (.bool (pre s p)) ∧ w = w' := by
 go_enter func228,ntmps228
 go_wp2_with (go_at_call 257; refine (sPrefix_any _ _ hs hp _).mono ?_; rintro e w' ⟨rfl,rfl⟩)
 go_ret
 exact ⟨rfl,rfl⟩
theorem ext_size (s : ByteArray) (a b : Nat) (hb : b ≤ s.size) : (s.extract a b).size = b - a := by
 rw [ByteArray.size_extract]; omega
theorem ext_bt (s : ByteArray) (a b i : Nat) (hb : b ≤ s.size) (hi : i < b - a) : bt (s.extract a b) i = bt s (a + i) := by
 have h1 : i < (s.extract a b).size := by rw [ext_size s a b hb]; exact hi
 rw [← bt_at _ i h1,← bt_at s (a + i) (by omega)]
 congr 1
 exact ByteArray.getElem_extract ..
theorem bt_ext {s t : ByteArray} (h : s.size = t.size) (hb : ∀ i,i < s.size → bt s i = bt t i) : s = t := by
 refine ByteArray.ext (Array.ext h (fun i h1 h2 => ?_))
 have e := hb i h1
 rw [← bt_at s i h1,← bt_at t i h2] at e
 exact UInt8.toNat_inj.1 e
theorem slash_pre (s : ByteArray) (a : Nat) (ha : a ≤ s.size) : pre (s.extract a s.size) ⟨#[47,47]⟩ = slash s a := by
 have hz : (⟨#[47,47]⟩ : BA).size = 2 := rfl
 have hs := ext_size s a s.size (Nat.le_refl _)
 unfold pre slash
 rw [hz,hs]
 refine decide_eq_decide.2 ⟨fun h => ?_,fun h => ?_⟩
 ·have h2 : a + 2 ≤ s.size := by omega
  have e : ∀ i,i < 2 → bt s (a + i) = bt ⟨#[47,47]⟩ i := fun i hi => by
   rw [← ext_bt s a s.size i (Nat.le_refl _) (by omega),← h.2,ext_bt _ 0 2 i (by omega) (by omega),Nat.zero_add]
  exact ⟨h2,e 0 (by omega),e 1 (by omega)⟩
 ·refine ⟨by omega,bt_ext (by rw [ext_size _ _ _ (by omega),hz]) (fun i hi => ?_)⟩
  rw [ext_size _ _ _ (by omega)] at hi
  rw [ext_bt _ 0 2 i (by omega) (by omega),Nat.zero_add,ext_bt s a s.size i (Nat.le_refl _) (by omega)]
  have : i = 0 ∨ i = 1 := by omega
  rcases this with rfl | rfl
  ·exact h.2.1
  ·exact h.2.2
theorem skip_any (s : ByteArray) (hs : s.size ≤ 1000000) (mp g a : Nat) (ha : a ≤ s.size) (w : World) :
 Calls prog 188 #[.agg #[.string s,.map (some mp),.slice (some ⟨g,0,none⟩) 28 28],.int .i64 a] w fun e w' => e = .returned (.int .i64 (skp s a : Nat)) ∧ Fr w w' := by
 obtain ⟨r,hr⟩ : ∃ r,r = skp s a := ⟨_,rfl⟩
 rw [← hr]
 have HR := h_ hr
 clear hr
 go_enter func188,ntmps188
 go_wp2
 go_loop [1] (fun i => ∃ k : Nat,k ≤ s.size ∧ i = .int .i64 k ∧ r = skp s k) (fun i => s.size - (intOf i).toNat)
 case atStart => exact ⟨a,ha,rfl,HR.out⟩
 case round =>
  obtain ⟨k,hk,rfl,hr⟩ := hrel
  have HK := h_ hr
  clear hr
  have hbd := run_bd blank s _ k rfl hk
  obtain ⟨b,hb⟩ : ∃ b,b = run blank s k := ⟨_,rfl⟩
  rw [← hb] at hbd
  obtain ⟨b1,b2⟩ := hbd
  have HB := h_ hb
  have HP := h_ (slash_pre s b b2)
  clear hb
  cases hsl : slash s b with
  | true =>
   have HSL := h_ hsl
   have hb3 := run_bd inl s _ b rfl b2
   have hb4 := slash_line hsl
   obtain ⟨c,hc⟩ : ∃ c,c = run inl s b := ⟨_,rfl⟩
   rw [← hc] at hb3 hb4
   obtain ⟨_,b3⟩ := hb3
   have HC := h_ hc
   clear hsl hc
   go_wp2_with fail
   refine (behindBlank_any s k hk (by omega) _).mono ?_; rintro e w' ⟨rfl,rfl⟩
   rw [← HB.out]
   go_wp2_with fail
   refine (HasPrefix_any _ _ (by rw [ext_size _ _ _ (Nat.le_refl _)]; omega) (by decide) _).mono ?_; rintro e w' ⟨rfl,rfl⟩
   rw [HP.out,HSL.out]
   go_wp2_with fail
   refine (behindLine_any s b b2 (by omega) _).mono ?_; rintro e w' ⟨rfl,rfl⟩
   rw [← HC.out]
   go_wp2_with fail
   go_round
   case rel => exact ⟨c,b3,rfl,by rw [HK.out,skp_go (by rw [← HB.out]; exact HSL.out),← HB.out,HC.out]⟩
   case measure => simp [intOf]; omega
  | false =>
   have HSL := h_ hsl
   clear hsl
   go_wp2_with fail
   refine (behindBlank_any s k hk (by omega) _).mono ?_; rintro e w' ⟨rfl,rfl⟩
   rw [← HB.out]
   go_wp2_with fail
   refine (HasPrefix_any _ _ (by rw [ext_size _ _ _ (Nat.le_refl _)]; omega) (by decide) _).mono ?_; rintro e w' ⟨rfl,rfl⟩
   rw [HP.out,HSL.out]
   go_wp2_with fail
   go_ret
   exact ⟨ret_int (by rw [HK.out,skp_stop (by rw [← HB.out]; exact HSL.out),HB.out]),(Fr.refl _).alloc _⟩
def Sb (w : World) (b : Nat) (s : ByteArray) (mp g : Nat) : Prop := w.cell? ⟨b,0,none⟩ = some (.string s) ∧ w.cell? ⟨b,1,none⟩ = some (.map (some mp)) ∧ w.cell? ⟨b,2,none⟩ = some (.slice (some ⟨g,0,none⟩) 28 28)
theorem Sb.fr {w w' : World} {b : Nat} {s : ByteArray} {mp g : Nat} (h : Sb w b s mp g) (k : Fr w w') : Sb w' b s mp g := ⟨k.cell h.1,k.cell h.2.1,k.cell h.2.2⟩
theorem Sb.new (w : World) (s : ByteArray) (mp g : Nat) (T : TypeId) : Sb (w.alloc (.cells #[.string s,.map (some mp),.slice (some ⟨g,0,none⟩) 28 28] T)) w.heap.size s mp g := ⟨by simp,by simp,by simp⟩
theorem has_any2 (s : ByteArray) (hs : s.size ≤ 1000000) (mp g a q : Nat) (w : World) :
 Calls prog 261 #[.agg #[.string s,.map (some mp),.slice (some ⟨g,0,none⟩) 28 28],.int .i64 a,.int .u8 q] w fun e w' => e = .returned (.bool (hasC s a q)) ∧ Fr w w' := by
 by_cases h1 : a < s.size
 ·have hb := bt_at s a h1
  have hd : decide (a < s.size) = true := decide_eq_true h1
  by_cases h2 : bt s a = q
  ·have HR : Hid (hasC s a q = true) := h_ (decide_eq_true ⟨h1,h2⟩)
   have ht : ((bt s a : Int) == (q : Int)) = true := by rw [beq_iff_eq]; omega
   clear h2
   go_enter func261,ntmps261
   go_wp2
   go_ret
   exact ⟨by rw [HR.out]; first | rfl | simp [*],(Fr.refl _).alloc _⟩
  ·have HR : Hid (hasC s a q = false) := h_ (decide_eq_false fun h => h2 h.2)
   have ht : ((bt s a : Int) == (q : Int)) = false := by rw [beq_eq_false_iff_ne]; omega
   clear h2
   go_enter func261,ntmps261
   go_wp2
   go_ret
   exact ⟨by rw [HR.out]; first | rfl | simp [*],(Fr.refl _).alloc _⟩
 ·have HR : Hid (hasC s a q = false) := h_ (decide_eq_false fun h => h1 h.1)
  have hd : decide (a < s.size) = false := decide_eq_false h1
  go_enter func261,ntmps261
  go_wp2
  go_ret
  exact ⟨by rw [HR.out]; rfl,(Fr.refl _).alloc _⟩
theorem inside_any (s : ByteArray) (hs : s.size ≤ 1000000) (mp g a q : Nat) (ha : a ≤ 2000000) (w : World) :
 Calls prog 260 #[.agg #[.string s,.map (some mp),.slice (some ⟨g,0,none⟩) 28 28],.int .i64 a,.int .u8 q] w fun e w' => e = .returned (.tuple #[.int .u8 ((ins s a q).c : Nat),.int .i64 ((ins s a q).nx : Nat),.bool (ins s a q).ok]) ∧ Fr w w' := by
 by_cases h1 : s.size ≤ a
 ·have HR : Hid (ins s a q = ⟨0,0,false⟩) := h_ (by unfold ins; rw [if_pos h1])
  have hd : decide (s.size ≤ a) = true := decide_eq_true h1
  rw [HR.out]
  go_enter func260,ntmps260
  go_wp2
  go_ret3
  exact ⟨rfl,(Fr.refl _).alloc _⟩
 ·have hb := bt_at s a (by omega)
  have hd : decide (s.size ≤ a) = false := decide_eq_false h1
  by_cases h2 : bt s a = 42
  ·have ht : ((bt s a : Int) != 42) = false := by rw [h2]; rfl
   by_cases h3 : s.size ≤ a + 1
   ·have HR : Hid (ins s a q = ⟨0,0,false⟩) := h_ (by unfold ins; rw [if_neg h1,if_pos h2,if_pos h3])
    have hd3 : decide ((s.size : Int) ≤ (a : Int) + 1) = true := decide_eq_true (by omega)
    rw [HR.out]
    clear h2
    go_enter func260,ntmps260
    go_wp2
    go_ret3
    exact ⟨rfl,(Fr.refl _).alloc _⟩
   ·have HR : Hid (ins s a q = ⟨esc (bt s (a + 1)),a + 2,escOk (bt s (a + 1))⟩) := h_ (by unfold ins; rw [if_neg h1,if_pos h2,if_neg h3])
    have hd3 : decide ((s.size : Int) ≤ (a : Int) + 1) = false := decide_eq_false (by omega)
    have hb2 := bt_at s (a + 1) (by omega)
    have hnum : ((a : Int) + 2) = ((a + 2 : Nat) : Int) := by omega
    have HN := h_ hnum
    rw [HR.out]
    clear h2 hnum
    go_enter func260,ntmps260
    go_wp2_with fail
    refine (escaped_any _ _).mono ?_; rintro e w' ⟨rfl,rfl⟩
    go_wp2_with fail
    go_ret3
    exact ⟨rfl,(Fr.refl _).alloc _⟩
  ·have ht : ((bt s a : Int) != 42) = true := by rw [bne_iff_ne]; omega
   cases hp : plain (bt s a) with
   | true =>
    obtain ⟨x,hx⟩ : ∃ x,x = (bt s a != q) := ⟨_,rfl⟩
    have HR : Hid (ins s a q = ⟨bt s a,a + 1,x⟩) := h_ (by unfold ins; rw [if_neg h1,if_neg h2,hp,hx]; rfl)
    have hx2 : ((bt s a : Int) != (q : Int)) = x := by rw [hx,Bool.eq_iff_iff]; simp; omega
    have HP := h_ hp
    rw [HR.out]
    clear h2 hx hp
    go_enter func260,ntmps260
    go_wp2_with fail
    refine (isPlain_any _ _).mono ?_; rintro e w' ⟨rfl,rfl⟩
    rw [HP.out]
    go_wp2_with fail
    go_ret3
    exact ⟨by first | rfl | simp [*],(Fr.refl _).alloc _⟩
   | false =>
    have HR : Hid (ins s a q = ⟨bt s a,a + 1,false⟩) := h_ (by unfold ins; rw [if_neg h1,if_neg h2,hp]; rfl)
    have HP := h_ hp
    rw [HR.out]
    clear h2 hp
    go_enter func260,ntmps260
    go_wp2_with fail
    refine (isPlain_any _ _).mono ?_; rintro e w' ⟨rfl,rfl⟩
    rw [HP.out]
    go_wp2_with fail
    go_ret3
    exact ⟨by first | rfl | simp [*],(Fr.refl _).alloc _⟩
def Tb (w : World) (b : Nat) (x0 x1 x2 x3 : Value) : Prop := w.heap[b]? = some (.cells #[x0,x1,x2,x3] 98 (0,0))
theorem Tb.lt {w : World} {b : Nat} {x0 x1 x2 x3 : Value} (h : Tb w b x0 x1 x2 x3) : b < w.heap.size := (Array.getElem?_eq_some_iff.1 h).1
theorem Tb.fr {w w' : World} {b : Nat} {x0 x1 x2 x3 : Value} (h : Tb w b x0 x1 x2 x3) (k : Fr w w') : Tb w' b x0 x1 x2 x3 := (k.block b h.lt).trans h
theorem Tb.cells {w : World} {b : Nat} {x0 x1 x2 x3 : Value} (h : Tb w b x0 x1 x2 x3) : w.cell? ⟨b,0,none⟩ = some x0 ∧ w.cell? ⟨b,1,none⟩ = some x1 ∧ w.cell? ⟨b,2,none⟩ = some x2 ∧ w.cell? ⟨b,3,none⟩ = some x3 := by
 unfold Tb at h
 simp [World.cell?,h]
theorem Tb.free {w : World} {b : Nat} {x0 x1 x2 x3 : Value} (h : Tb w b x0 x1 x2 x3) (i : Nat) : w.frozen? ⟨b,i,none⟩ = false := by
 unfold Tb at h
 simp [World.frozen?,h]
theorem Tb.new (w : World) (x0 x1 x2 x3 : Value) : Tb (w.alloc (.cells #[x0,x1,x2,x3] 98)) w.heap.size x0 x1 x2 x3 := by
 unfold Tb; simp only [World.alloc,Array.getElem?_push_size]
theorem Tb.new1 (w : World) (o : Obj) (x0 x1 x2 x3 : Value) : Tb ((w.alloc o).alloc (.cells #[x0,x1,x2,x3] 98)) (w.heap.size + 1) x0 x1 x2 x3 := by
 have h := Tb.new (w.alloc o) x0 x1 x2 x3
 simpa using h
theorem esc_le (c : Nat) : esc c ≤ 255 := by
 unfold esc
 repeat' split
 all_goals omega
theorem ins_c (s : ByteArray) (a q : Nat) : (ins s a q).c ≤ 255 := by
 have h1 := bt_lt s a
 have h2 := esc_le (bt s (a + 1))
 unfold ins
 split
 ·simp
 ·split
  ·split
   ·simp
   ·exact h2
  ·simp only; omega
theorem tok_fr {w w1 : World} (h : Fr w w1) (a b c d : Value) : Fr w ((((w1.setCell ⟨w.heap.size + 1,0,none⟩ a).setCell ⟨w.heap.size + 1,1,none⟩ b).setCell ⟨w.heap.size + 1,2,none⟩ c).setCell ⟨w.heap.size + 1,3,none⟩ d) :=
 (((h.setCell (Nat.le_succ _) a).setCell (Nat.le_succ _) b).setCell (Nat.le_succ _) c).setCell (Nat.le_succ _) d
theorem char_any (s : ByteArray) (hs : s.size ≤ 1000000) (mp g a : Nat) (ha : a ≤ s.size) (w : World) :
 Calls prog 235 #[.agg #[.string s,.map (some mp),.slice (some ⟨g,0,none⟩) 28 28],.int .i64 a] w fun e w' =>
  e = .returned (.tuple #[.agg #[.int .i64 (chrT s a).k,.string (chrT s a).t,.int .i64 (chrT s a).n,.int .i64 0],.int .i64 (chrT s a).e,.int .i64 (chrT s a).er]) ∧ Fr w w' := by
 obtain ⟨r,hr⟩ : ∃ r,r = ins s (a + 1) 39 := ⟨_,rfl⟩
 obtain ⟨rc,rn,rk⟩ := r
 have hn : rn ≤ 1000001 := by
  cases h : (ins s (a + 1) 39).ok with
  | true => have := (ins_ok h).2.2; rw [← hr] at this; simp only at this; omega
  | false =>
   have : rn = (ins s (a + 1) 39).nx := by rw [← hr]
   unfold ins at this
   rw [this]
   split
   ·simp
   ·split
    ·split <;> simp only <;> omega
    ·simp only; omega
 have hc : rc ≤ 255 := by have := ins_c s (a + 1) 39; rw [← hr] at this; exact this
 have HRR := h_ hr
 have hf0 : Fr w ((w.alloc (.cells #[.string s,.map (some mp),.slice (some ⟨g,0,none⟩) 28 28] 145)).alloc (.cells #[.int .i64 0,.string ⟨#[]⟩,.int .i64 0,.int .i64 0] 98)) := ((Fr.refl w).alloc _).alloc _
 have HS0 := h_ ((Sb.new w s mp g 145).fr ((Fr.refl _).alloc (.cells #[.int .i64 0,.string ⟨#[]⟩,.int .i64 0,.int .i64 0] 98)))
 have HT0 := h_ (Tb.new1 w (.cells #[.string s,.map (some mp),.slice (some ⟨g,0,none⟩) 28 28] 145) (.int .i64 0) (.string ⟨#[]⟩) (.int .i64 0) (.int .i64 0))
 have ha1 : (a : Int) + 1 = ((a + 1 : Nat) : Int) := by omega
 have HA1 := h_ ha1
 clear hr ha1
 go_enter func235,ntmps235
 go_wp2_with fail
 rw [HA1.out]
 refine (inside_any s hs mp g (a + 1) 39 (by omega) _).mono ?_
 rintro e w1 ⟨rfl,hf1⟩
 rw [← HRR.out]
 dsimp only
 have HS1 := h_ (HS0.out.fr hf1)
 have HT1 := h_ (HT0.out.fr hf1)
 have hfw := hf0.trans hf1
 obtain ⟨c0,c1,c2⟩ := HS1.out
 cases rk with
 | true =>
  cases hq : hasC s rn 39 with
  | true =>
   have HC : Hid (chrT s a = ⟨2,nul,(rc : Nat),rn + 1,0⟩) := h_ (by unfold chrT; rw [← HRR.out,if_pos ⟨rfl,hq⟩])
   have HQ := h_ hq
   clear hq
   go_wp2_with fail
   refine (has_any2 s hs mp g rn 39 _).mono ?_
   rintro e w2 ⟨rfl,hf2⟩
   rw [HQ.out]
   have HT2 := h_ (HT1.out.fr hf2)
   obtain ⟨t0,t1,t2,t3⟩ := HT2.out.cells
   have z0 := HT2.out.free 0
   have z1 := HT2.out.free 1
   have z2 := HT2.out.free 2
   have z3 := HT2.out.free 3
   clear c0 c1 c2
   go_wp2_with fail
   exact bodyPost_ret (v := .tuple #[.agg #[.int .i64 2,.string ⟨#[]⟩,.int .i64 ((rc : Nat) : Int),.int .i64 0],.int .i64 ((rn : Int) + 1),.int .i64 0]) (by simp [results,results235,go_sem,t0,t1,t2,t3]) rfl ⟨by rw [HC.out]; rfl,tok_fr (hfw.trans hf2) _ _ _ _⟩
  | false =>
   have HC : Hid (chrT s a = bad 21) := h_ (by unfold chrT; rw [← HRR.out,if_neg (by rw [hq]; simp)])
   have HQ := h_ hq
   clear hq
   go_wp2_with fail
   refine (has_any2 s hs mp g rn 39 _).mono ?_
   rintro e w2 ⟨rfl,hf2⟩
   rw [HQ.out]
   have HT2 := h_ (HT1.out.fr hf2)
   obtain ⟨t0,t1,t2,t3⟩ := HT2.out.cells
   have z0 := HT2.out.free 0
   have z1 := HT2.out.free 1
   have z2 := HT2.out.free 2
   have z3 := HT2.out.free 3
   clear c0 c1 c2
   go_wp2_with fail
   exact bodyPost_ret (v := .tuple #[.agg #[.int .i64 0,.string ⟨#[]⟩,.int .i64 0,.int .i64 0],.int .i64 0,.int .i64 21]) (by simp [results,results235,go_sem,t0,t1,t2,t3]) rfl ⟨by rw [HC.out]; rfl,tok_fr (hfw.trans hf2) _ _ _ _⟩
 | false =>
  have HC : Hid (chrT s a = bad 21) := h_ (by unfold chrT; rw [← HRR.out,if_neg (by simp)])
  obtain ⟨t0,t1,t2,t3⟩ := HT1.out.cells
  have z0 := HT1.out.free 0
  have z1 := HT1.out.free 1
  have z2 := HT1.out.free 2
  have z3 := HT1.out.free 3
  clear c0 c1 c2
  go_wp2_with fail
  exact bodyPost_ret (v := .tuple #[.agg #[.int .i64 0,.string ⟨#[]⟩,.int .i64 0,.int .i64 0],.int .i64 0,.int .i64 21]) (by simp [results,results235,go_sem,t0,t1,t2,t3]) rfl ⟨by rw [HC.out]; rfl,tok_fr hfw _ _ _ _⟩
theorem Tryz.infoU8 : (prog.info? 5).map (fun i => (i.zero,i.size,i.bytes)) = some (some (.int .u8 0),1,1) := by kernel_rfl
def Stop (p : Prop) : Prop := p
theorem stop_append {P : Program} {ops : Array Oper} {rest : List Oper} {x y dst ty pos aft g} {a : Act} {w : World} {Q : Exit → Act → World → Prop}
 (h : Stop (wpList P ops Q (⟨dst,.call { callee := .builtin .append,args := x,argTypes := y },ty,pos,aft,g⟩ :: rest) a w)) : wpList P ops Q (⟨dst,.call { callee := .builtin .append,args := x,argTypes := y },ty,pos,aft,g⟩ :: rest) a w := h
theorem own_fr {w0 wr w' : World} {v : Value} {T : TypeId} {z m : Nat} {xs : List Value} (h : Fr w0 wr) (ho : wr.ownsRow w0.heap.size T z v m xs) (hg : wr.grownBy w' v.ownBlock) : Fr w0 w' :=
 Below.grown h hg h.size (fun k hk => (ho.lt k hk).1)
theorem Fr.grow {a b : World} (h : Fr a b) : a.grownBy b none := ⟨h.os,h.tape,h.output,h.size,fun k hk _ => h.block k hk⟩
theorem own_keep {w0 wr w' : World} {v : Value} {T : TypeId} {z m : Nat} {xs : List Value} (ho : wr.ownsRow w0.heap.size T z v m xs) (h : Fr wr w') : w'.ownsRow w0.heap.size T z v m xs :=
 ho.kept (Fr.grow h) (by cases v.ownBlock <;> simp)
theorem sl_one (W : World) (x : Value) (T : TypeId) : SlV (W.alloc (.cells #[x] T)) (.slice (some ⟨W.heap.size,0,none⟩) 1 1) 1 (fun _ => x) :=
 ⟨_,1,rfl,fun _ => ⟨W.heap.size,0,rfl,fun i hi => by obtain rfl : i = 0 := (by omega); simp⟩⟩
theorem own_form {w : World} {B : Nat} {T : TypeId} {z m : Nat} {v : Value} {xs : List Value} (h : w.ownsRow B T z v m xs) : ∃ a c,v = .slice a m c := by
 rcases h.2 with ⟨rfl,rfl⟩ | ⟨g,cap,cur,rfl,_⟩
 ·exact ⟨none,0,rfl⟩
 ·exact ⟨_,cap,rfl⟩
def u8s (l : List Nat) : List Value := l.map fun (c : Nat) => Value.int .u8 (c : Int)
theorem conv_list {P : Program} {w : World} {B : Nat} {src e : TypeId} {v : Value} {l : List Nat} (hs : P.underlying src = some (.slice e)) (he : P.underlying e = some (.int .u8)) (h : w.ownsRow B e 1 v l.length (u8s l)) :
 ∀ dst,P.underlying dst = some .string → (convert src dst v).run P w = .ok (.string (ofL l)) w := by
 intro dst hd
 rcases h.2 with ⟨rfl,h0⟩ | ⟨g,cap,cur,rfl,hb,hg,hm,_,hsz,ht⟩
 ·obtain rfl : l = [] := List.eq_nil_of_length_eq_zero h0
  exact run_convert_bytes_nil w src e hs he 0 0 dst hd
 ·refine run_convert_bytes_arg w src e hs he g 0 l.length cap _ (by simp) (fun i hi => ?_) dst hd
  have h1 : (u8s l)[i]? = some (.int .u8 (l[i] : Nat)) := by unfold u8s; simp [hi]
  rw [← ht,Nat.mul_one,List.getElem?_take_of_lt hi] at h1
  rw [Nat.zero_add]
  simp only [World.cell?,hg]
  simpa [List.getD,hi] using h1
theorem text_any (s : ByteArray) (hs : s.size ≤ 1000000) (mp g a : Nat) (ha : a < s.size) (w : World) :
 Calls prog 236 #[.agg #[.string s,.map (some mp),.slice (some ⟨g,0,none⟩) 28 28],.int .i64 a] w fun e w' =>
  e = .returned (.tuple #[.agg #[.int .i64 (strT s a).k,.string (strT s a).t,.int .i64 (strT s a).n,.int .i64 0],.int .i64 (strT s a).e,.int .i64 (strT s a).er]) ∧ Fr w w' := by
 obtain ⟨w0,hw0⟩ : ∃ w0,w0 = ((w.alloc (.cells #[.string s,.map (some mp),.slice (some ⟨g,0,none⟩) 28 28] 145)).alloc (.cells #[.int .i64 0,.string ⟨#[]⟩,.int .i64 0,.int .i64 0] 98)) := ⟨_,rfl⟩
 have hf0 : Fr w w0 := by rw [hw0]; exact ((Fr.refl w).alloc _).alloc _
 have HS0 := h_ (show Sb w0 w.heap.size s mp g by rw [hw0]; exact (Sb.new w s mp g 145).fr ((Fr.refl _).alloc _))
 have HT0 := h_ (show Tb w0 (w.heap.size + 1) (.int .i64 0) (.string ⟨#[]⟩) (.int .i64 0) (.int .i64 0) by rw [hw0]; exact Tb.new1 w (.cells #[.string s,.map (some mp),.slice (some ⟨g,0,none⟩) 28 28] 145) (.int .i64 0) (.string ⟨#[]⟩) (.int .i64 0) (.int .i64 0))
 have HW0 := h_ hw0
 obtain ⟨u0,hi0,hz0,hz1,hz2⟩ := info_parts Tryz.infoU8
 have HU := h_ (And.intro hi0 (And.intro hz0 (And.intro hz1 hz2)))
 clear hw0 hi0 hz0 hz1 hz2
 go_enter func236,ntmps236
 go_wp2_with fail
 rw [← HW0.out]
 go_loopw [7,8] (fun o i wr => ∃ (l : List Nat) (q : Nat),q ≤ s.size ∧ i = .int .i64 q ∧ l.length ≤ q ∧ strO s (a + 1) = (strO s q).map (fun p => (l ++ p.1,p.2)) ∧ wr.ownsRow w0.heap.size 5 1 o l.length (u8s l) ∧ Fr w0 wr) (fun _ i _ => s.size + 1 - (intOf i).toNat)
 case atStart => exact ⟨[],a + 1,by omega,by go_num,by simp,by simp,World.ownsRow_nil _ _ _ _,Fr.refl _⟩
 case round =>
  obtain ⟨l,q,hq,rfl,hlq,hstr,hown,hfr⟩ := hrel
  have HSTR := h_ hstr
  have HO := h_ hown
  obtain ⟨c0,c1,c2⟩ := HS0.out.fr hfr
  clear hstr hown
  cases hh : hasC s q 34 with
  | true =>
   have HH := h_ hh
   clear hh
   go_wp2_with fail
   refine (has_any2 s hs mp g q 34 _).mono ?_
   rintro e w1 ⟨rfl,hf1⟩
   rw [HH.out]
   have HO1 := h_ (own_keep HO.out hf1)
   have HT1 := h_ ((HT0.out.fr hfr).fr hf1)
   have hcv := conv_list (P := prog) underlying54 underlying5 HO1.out 9 underlying9
   obtain ⟨A,c,rfl⟩ := own_form HO1.out
   obtain ⟨t0,t1,t2,t3⟩ := HT1.out.cells
   have z0 := HT1.out.free 0
   have z1 := HT1.out.free 1
   have z2 := HT1.out.free 2
   have z3 := HT1.out.free 3
   have hfin := (hf0.trans hfr).trans hf1
   clear c0 c1 c2
   by_cases h100 : 100 < l.length
   ·have HC : Hid (strT s a = bad 2) := h_ (by
     unfold strT; rw [HSTR.out,strO_end HH.out]; simp [h100])
    have hd : decide ((100 : Int) < (l.length : Int)) = true := decide_eq_true (by omega)
    go_wp2_with fail
    exact bodyPost_ret (v := .tuple #[.agg #[.int .i64 0,.string ⟨#[]⟩,.int .i64 0,.int .i64 0],.int .i64 0,.int .i64 2]) (by simp [results,results236,go_sem,t0,t1,t2,t3]) rfl ⟨by rw [HC.out]; rfl,tok_fr hfin _ _ _ _⟩
   ·have HC : Hid (strT s a = ⟨3,ofL l,0,q + 1,0⟩) := h_ (by
     unfold strT; rw [HSTR.out,strO_end HH.out]; simp [h100])
    have hd : decide ((100 : Int) < (l.length : Int)) = false := decide_eq_false (by omega)
    go_wp2_with fail
    exact bodyPost_ret (v := .tuple #[.agg #[.int .i64 3,.string (ofL l),.int .i64 0,.int .i64 0],.int .i64 ((q : Int) + 1),.int .i64 0]) (by simp [results,results236,go_sem,t0,t1,t2,t3]) rfl ⟨by rw [HC.out]; rfl,tok_fr hfin _ _ _ _⟩
  | false =>
   have HH := h_ hh
   clear hh
   go_wp2_with fail
   refine (has_any2 s hs mp g q 34 _).mono ?_
   rintro e w1 ⟨rfl,hf1⟩
   rw [HH.out]
   have HS1 := h_ ((HS0.out.fr hfr).fr hf1)
   clear c0 c1 c2
   obtain ⟨c0,c1,c2⟩ := HS1.out
   obtain ⟨r,hr⟩ : ∃ r,r = ins s q 34 := ⟨_,rfl⟩
   obtain ⟨rc,rn,rk⟩ := r
   have hc : rc ≤ 255 := by have := ins_c s q 34; rw [← hr] at this; exact this
   have hok := @ins_ok s q 34
   rw [← hr] at hok
   have HRR := h_ hr
   have HOK := h_ hok
   clear hr hok
   go_wp2_with fail
   refine (inside_any s hs mp g q 34 (by omega) _).mono ?_
   rintro e w2 ⟨rfl,hf2⟩
   rw [← HRR.out]
   dsimp only
   clear c0 c1 c2
   cases rk with
   | true =>
    obtain ⟨k1,k2,k3⟩ := HOK.out rfl
    have HO2 := h_ (own_keep HO.out (hf1.trans hf2))
    have HL := h_ hlq
    go_wp2_with (with_reducible refine stop_append ?_)
    unfold Stop
    refine wpList_append_sl rfl (.tmp 28) (.tmp 30) 54 rfl w0.heap.size 5 u0 _ 1 underlying54 HU.out.1 HU.out.2.1 HU.out.2.2.1 HU.out.2.2.2 rfl _ l.length _ rfl (own_keep HO2.out ((Fr.refl _).alloc _)) _ 1 (fun _ => .int .u8 (rc : Nat)) rfl (sl_one _ _ _) (fun _ => rfl) (by unfold maxLen; omega) (by omega) (Nat.le_trans ((hfr.trans (hf1.trans hf2)).alloc _).size (Nat.le_refl _)) ?_
    intro v' wA hown hg
    have hown2 : wA.ownsRow w0.heap.size 5 1 v' (l ++ [rc]).length (u8s (l ++ [rc])) := by
     have e : u8s (l ++ [rc]) = u8s l ++ many 1 (fun _ => Value.int .u8 (rc : Nat)) := by unfold u8s; rw [List.map_append]; rfl
     rw [e,List.length_append]; exact hown
    have HOA := h_ hown2
    have hfA := own_fr ((hfr.trans (hf1.trans hf2)).alloc _) (own_keep HO2.out ((Fr.refl _).alloc _)) hg
    clear hown hg hown2
    go_wp2_with fail
    go_roundw
    case rel =>
     have hst : strO s (a + 1) = (strO s rn).map (fun p => ((l ++ [rc]) ++ p.1,p.2)) := by
      have hr := HRR.out
      rw [HSTR.out,strO_step HH.out (by rw [← hr]),← hr,Option.map_map]
      congr 1
      funext p
      simp
     first | exact ⟨l ++ [rc],rn,k3,rfl,by rw [List.length_append,List.length_singleton]; omega,hst,HOA.out,hfA⟩ | ((repeat apply Exists.intro); exact ⟨⟨l ++ [rc],rn,k3,rfl,by rw [List.length_append,List.length_singleton]; omega,hst,HOA.out,hfA⟩,rfl⟩)
    case measure => simp [intOf]; omega
   | false =>
    have HC : Hid (strT s a = bad 21) := h_ (by
     have hr := HRR.out
     unfold strT; rw [HSTR.out,strO_no HH.out (by rw [← hr])]; rfl)
    have hfr2 := hfr.trans (hf1.trans hf2)
    have HT2 := h_ (HT0.out.fr hfr2)
    obtain ⟨t0,t1,t2,t3⟩ := HT2.out.cells
    have z0 := HT2.out.free 0
    have z1 := HT2.out.free 1
    have z2 := HT2.out.free 2
    have z3 := HT2.out.free 3
    go_wp2_with fail
    exact bodyPost_ret (v := .tuple #[.agg #[.int .i64 0,.string ⟨#[]⟩,.int .i64 0,.int .i64 0],.int .i64 0,.int .i64 21]) (by simp [results,results236,go_sem,t0,t1,t2,t3]) rfl ⟨by rw [HC.out]; rfl,tok_fr (hf0.trans hfr2) _ _ _ _⟩
def Ks (w : World) (mp g : Nat) : Prop := (∀ W,Fr w W → ∀ s : ByteArray,s.size ≤ 1000000 → (Instr.lookup 94 (.map (some mp)) (.string s) false).run prog W = .ok (.bool (hasB 43 keyB s)) W) ∧ w.rowIs g 9 28 (fun i => .string (sgnB i))
theorem Ks.fr {w w' : World} {mp g : Nat} (h : Ks w mp g) (k : Fr w w') : Ks w' mp g := ⟨fun W hW => h.1 W (k.trans hW),k.row h.2⟩
open Classical in
theorem has_up {L : Nat} {f : Nat → ByteArray} {s : ByteArray} (h : hasB L f s = true) : HasP L f s := by unfold hasB at h; exact of_decide_eq_true h
def key24 : Bool := (List.range 43).all fun i => (keyB i).size ≤ 24
theorem key_le (i : Nat) (h : i < 43) : (keyB i).size ≤ 24 := by
 have h1 : key24 = true := by decide
 have := List.all_eq_true.1 h1 i (by simpa using h)
 simpa using this
theorem word_any (s : ByteArray) (hs : s.size ≤ 1000000) (mp g a : Nat) (ha : a < s.size) (w : World) (hk : Ks w mp g) :
 Calls prog 231 #[.agg #[.string s,.map (some mp),.slice (some ⟨g,0,none⟩) 28 28],.int .i64 a] w fun e w' =>
  e = .returned (.tuple #[.agg #[.int .i64 (wordT s a).k,.string (wordT s a).t,.int .i64 (wordT s a).n,.int .i64 0],.int .i64 (wordT s a).e,.int .i64 (wordT s a).er]) ∧ Fr w w' := by
 have hbd := run_bd part s _ a rfl (by omega)
 obtain ⟨b,hb⟩ : ∃ b,b = run part s a := ⟨_,rfl⟩
 rw [← hb] at hbd
 obtain ⟨b1,b2⟩ := hbd
 have HB := h_ hb
 have hxs := ext_size s a b b2
 obtain ⟨w0,hw0⟩ : ∃ w0,w0 = ((w.alloc (.cells #[.string s,.map (some mp),.slice (some ⟨g,0,none⟩) 28 28] 145)).alloc (.cells #[.int .i64 0,.string ⟨#[]⟩,.int .i64 0,.int .i64 0] 98)) := ⟨_,rfl⟩
 have hf0 : Fr w w0 := by rw [hw0]; exact ((Fr.refl w).alloc _).alloc _
 obtain ⟨c0,c1,c2⟩ : Sb w0 w.heap.size s mp g := by rw [hw0]; exact (Sb.new w s mp g 145).fr ((Fr.refl _).alloc _)
 have HT0 := h_ (show Tb w0 (w.heap.size + 1) (.int .i64 0) (.string ⟨#[]⟩) (.int .i64 0) (.int .i64 0) by rw [hw0]; exact Tb.new1 w (.cells #[.string s,.map (some mp),.slice (some ⟨g,0,none⟩) 28 28] 145) (.int .i64 0) (.string ⟨#[]⟩) (.int .i64 0) (.int .i64 0))
 have HW0 := h_ hw0
 obtain ⟨t0,t1,t2,t3⟩ := HT0.out.cells
 have z0 := HT0.out.free 0
 have z1 := HT0.out.free 1
 have z2 := HT0.out.free 2
 have z3 := HT0.out.free 3
 cases hh : hasB 43 keyB (s.extract a b) with
 | true =>
  have hlk := (hk.fr hf0).1 w0 (Fr.refl _) (s.extract a b) (by omega)
  rw [hh] at hlk
  have HC : Hid (wordT s a = ⟨4,s.extract a b,0,b,0⟩) := h_ (by unfold wordT; rw [← hb,if_pos hh])
  clear hb hw0 hh hxs
  go_enter func231,ntmps231
  go_wp2_with fail
  rw [← HW0.out]
  refine (behindName_any s a (by omega) (by omega) _).mono ?_; rintro e w' ⟨rfl,rfl⟩
  rw [← HB.out]
  go_wp2_with fail
  exact bodyPost_ret (v := .tuple #[.agg #[.int .i64 4,.string (s.extract a b),.int .i64 0,.int .i64 0],.int .i64 b,.int .i64 0]) (by simp [results,results231,go_sem,t0,t1,t2,t3]) rfl ⟨by rw [HC.out]; rfl,tok_fr hf0 _ _ _ _⟩
 | false =>
  have hlk := (hk.fr hf0).1 w0 (Fr.refl _) (s.extract a b) (by omega)
  rw [hh] at hlk
  by_cases h24 : 24 < b - a
  ·have HC : Hid (wordT s a = bad 2) := h_ (by unfold wordT; rw [← hb,if_neg (by rw [hh]; decide),if_pos (by rw [hxs]; exact h24)])
   have hd : decide ((24 : Int) < ((b - a : Nat) : Int)) = true := decide_eq_true (by omega)
   clear hb hw0 hh h24
   go_enter func231,ntmps231
   go_wp2_with fail
   rw [← HW0.out]
   refine (behindName_any s a (by omega) (by omega) _).mono ?_; rintro e w' ⟨rfl,rfl⟩
   rw [← HB.out]
   go_wp2_with fail
   exact bodyPost_ret (v := .tuple #[.agg #[.int .i64 0,.string ⟨#[]⟩,.int .i64 0,.int .i64 0],.int .i64 0,.int .i64 2]) (by simp [results,results231,go_sem,t0,t1,t2,t3]) rfl ⟨by rw [HC.out]; rfl,tok_fr hf0 _ _ _ _⟩
  ·have HC : Hid (wordT s a = ⟨1,s.extract a b,0,b,0⟩) := h_ (by unfold wordT; rw [← hb,if_neg (by rw [hh]; decide),if_neg (by rw [hxs]; exact h24)])
   have hd : decide ((24 : Int) < ((b - a : Nat) : Int)) = false := decide_eq_false (by omega)
   clear hb hw0 hh h24
   go_enter func231,ntmps231
   go_wp2_with fail
   rw [← HW0.out]
   refine (behindName_any s a (by omega) (by omega) _).mono ?_; rintro e w' ⟨rfl,rfl⟩
   rw [← HB.out]
   go_wp2_with fail
   exact bodyPost_ret (v := .tuple #[.agg #[.int .i64 1,.string (s.extract a b),.int .i64 0,.int .i64 0],.int .i64 b,.int .i64 0]) (by simp [results,results231,go_sem,t0,t1,t2,t3]) rfl ⟨by rw [HC.out]; rfl,tok_fr hf0 _ _ _ _⟩
def Lng (s : ByteArray) (a k : Nat) (t : ByteArray) : Prop :=
 (t.size = 0 ∧ (∀ i,i < k → pre (s.extract a s.size) (sgnB i) = false)) ∨
 (t.size = 1 ∧ (∃ i,i < k ∧ sgnB i = t ∧ pre (s.extract a s.size) t = true) ∧ (∀ i,i < k → (sgnB i).size = 2 → pre (s.extract a s.size) (sgnB i) = false)) ∨
 (t.size = 2 ∧ (∃ i,i < k ∧ sgnB i = t ∧ pre (s.extract a s.size) t = true))
def sgn12 : Bool := (List.range 28).all fun i => (sgnB i).size == 1 || (sgnB i).size == 2
theorem sgn_size (i : Nat) (h : i < 28) : (sgnB i).size = 1 ∨ (sgnB i).size = 2 := by
 have h1 : sgn12 = true := by decide
 have := List.all_eq_true.1 h1 i (by simpa using h)
 simpa using this
theorem pre_ext (s t : ByteArray) (a : Nat) (ha : a ≤ s.size) : pre (s.extract a s.size) t = true ↔ a + t.size ≤ s.size ∧ s.extract a (a + t.size) = t := by
 have hz := ext_size s a s.size (Nat.le_refl _)
 unfold pre
 rw [decide_eq_true_iff,hz]
 have he : t.size ≤ s.size - a → (s.extract a s.size).extract 0 t.size = s.extract a (a + t.size) := fun h => by
  refine bt_ext ?_ (fun i hi => ?_)
  ·rw [ext_size _ _ _ (by omega),ext_size _ _ _ (by omega)]; omega
  ·rw [ext_size _ _ _ (by omega)] at hi
   rw [ext_bt _ 0 t.size i (by omega) (by omega),Nat.zero_add,ext_bt s a s.size i (Nat.le_refl _) (by omega),ext_bt s a (a + t.size) i (by omega) (by omega)]
 exact ⟨fun h => ⟨by omega,by rw [← he h.1]; exact h.2⟩,fun h => ⟨by omega,by rw [he (by omega)]; exact h.2⟩⟩
theorem Lng.sgnT {s t : ByteArray} {a : Nat} (ha : a < s.size) (h : Lng s a 28 t) : sgnT s a = if t.size = 0 then bad 20 else ⟨5,t,0,a + t.size,0⟩ := by
 have up : ∀ x,hasB 28 sgnB x = true → ∃ i,i < 28 ∧ sgnB i = x := fun x hx => has_up hx
 have key : ∀ n,a + n ≤ s.size → hasB 28 sgnB (s.extract a (a + n)) = true → ∃ i,i < 28 ∧ (sgnB i).size = n ∧ pre (s.extract a s.size) (sgnB i) = true := fun n hn hx => by
  obtain ⟨i,hi,e⟩ := up _ hx
  have hz : (sgnB i).size = n := by rw [e,ext_size _ _ _ hn]; omega
  exact ⟨i,hi,hz,(pre_ext s _ a (by omega)).2 (by rw [hz]; exact ⟨hn,e.symm⟩)⟩
 unfold Go.Proofs.YtbaelbafhdjlnaaGreatDoor.sgnT
 rcases h with ⟨h0,hno⟩ | ⟨h1,⟨i,hi,e,hp⟩,hno⟩ | ⟨h2,⟨i,hi,e,hp⟩⟩
 ·rw [if_pos h0,if_neg,if_neg]
  ·rintro ⟨hn,hx⟩; obtain ⟨i,hi,_,hp⟩ := key 1 hn hx; rw [hno i hi] at hp; cases hp
  ·rintro ⟨hn,hx⟩; obtain ⟨i,hi,_,hp⟩ := key 2 hn hx; rw [hno i hi] at hp; cases hp
 ·have hp' := (pre_ext s t a (by omega)).1 hp
  rw [h1] at hp'
  rw [show (if t.size = 0 then bad 20 else (⟨5,t,0,a + t.size,0⟩ : Tk)) = ⟨5,t,0,a + 1,0⟩ from by rw [if_neg (by omega),h1],if_neg,if_pos ⟨hp'.1,by rw [hp'.2]; exact hasB_yes hi e⟩,hp'.2]
  rintro ⟨hn,hx⟩; obtain ⟨j,hj,hz,hq⟩ := key 2 hn hx; rw [hno j hj hz] at hq; cases hq
 ·have hp' := (pre_ext s t a (by omega)).1 hp
  rw [h2] at hp'
  rw [show (if t.size = 0 then bad 20 else (⟨5,t,0,a + t.size,0⟩ : Tk)) = ⟨5,t,0,a + 2,0⟩ from by rw [if_neg (by omega),h2],if_pos ⟨hp'.1,by rw [hp'.2]; exact hasB_yes hi e⟩,hp'.2]
theorem Lng.step {s t : ByteArray} {a k : Nat} (hk : k < 28) (h : Lng s a k t) :
 (t.size < (sgnB k).size → pre (s.extract a s.size) (sgnB k) = true → Lng s a (k + 1) (sgnB k)) ∧
 (t.size < (sgnB k).size → pre (s.extract a s.size) (sgnB k) = false → Lng s a (k + 1) t) ∧ (¬ t.size < (sgnB k).size → Lng s a (k + 1) t) := by
 have hz := sgn_size k hk
 refine ⟨fun hl hp => ?_,fun hl hp => ?_,fun hl => ?_⟩
 ·rcases hz with hz | hz
  ·rcases h with ⟨h0,hno⟩ | ⟨h1,_⟩ | ⟨h2,_⟩
   ·refine .inr (.inl ⟨hz,⟨k,by omega,rfl,hp⟩,fun i hi h2 => ?_⟩)
    by_cases e : i = k
    ·subst e; omega
    ·exact hno i (by omega)
   ·omega
   ·omega
  ·exact .inr (.inr ⟨hz,⟨k,by omega,rfl,hp⟩⟩)
 ·rcases h with ⟨h0,hno⟩ | ⟨h1,⟨i,hi,e,hp2⟩,hno⟩ | ⟨h2,⟨i,hi,e,hp2⟩⟩
  ·refine .inl ⟨h0,fun i hi => ?_⟩
   by_cases e : i = k
   ·subst e; exact hp
   ·exact hno i (by omega)
  ·refine .inr (.inl ⟨h1,⟨i,by omega,e,hp2⟩,fun i hi h2 => ?_⟩)
   by_cases e : i = k
   ·subst e; exact hp
   ·exact hno i (by omega) h2
  ·exact .inr (.inr ⟨h2,⟨i,by omega,e,hp2⟩⟩)
 ·rcases h with ⟨h0,hno⟩ | ⟨h1,⟨i,hi,e,hp2⟩,hno⟩ | ⟨h2,⟨i,hi,e,hp2⟩⟩
  ·omega
  ·refine .inr (.inl ⟨h1,⟨i,by omega,e,hp2⟩,fun i hi h2 => ?_⟩)
   by_cases e : i = k
   ·subst e; omega
   ·exact hno i (by omega) h2
  ·exact .inr (.inr ⟨h2,⟨i,by omega,e,hp2⟩⟩)
theorem emp_yes {s : ByteArray} (h : s.size = 0) : s.toList.isEmpty = true := by
 rw [ByteArray.toList_eq,List.isEmpty_iff_length_eq_zero]; simpa using h
theorem emp_no {s : ByteArray} (h : 0 < s.size) : s.toList.isEmpty = false := by
 rw [Bool.eq_false_iff]
 intro e
 rw [ByteArray.toList_eq,List.isEmpty_iff_length_eq_zero] at e
 have : s.size = 0 := by simpa using e
 omega
theorem isNm_no {s : ByteArray} (h : ¬ (0 < s.size ∧ s.size ≤ 24 ∧ small (bt s 0) = true ∧ (∀ i,i < s.size → part (bt s i) = true) ∧ hasB 43 keyB s = false)) : isNm s = false := decide_eq_false h
theorem isNm_yes {s : ByteArray} (h : 0 < s.size ∧ s.size ≤ 24 ∧ small (bt s 0) = true ∧ (∀ i,i < s.size → part (bt s i) = true) ∧ hasB 43 keyB s = false) : isNm s = true := decide_eq_true h
theorem IsName_any (s : ByteArray) (w : World) : Calls prog 209 #[.string s] w fun e w' => e = .returned (.bool (isNm s)) ∧ Fr w w' := by
 by_cases h1 : 0 < s.size
 ·have e1 := emp_no h1
  by_cases h2 : s.size ≤ 24
  ·have hb := bt_at s 0 h1
   cases h3 : small (bt s 0) with
   | true =>
    have H3 := h_ h3
    clear h3
    have hall := run_all part s s.size 0 rfl (Nat.zero_le _)
    by_cases h4 : run part s 0 = s.size
    ·have H4 := h_ (hall.1 h4)
     have ht : (((run part s 0 : Nat) : Int) == ((s.size : Nat) : Int)) = true := by rw [beq_iff_eq]; omega
     have HR : Hid (isNm s = !hasB 43 keyB s) := by
      refine h_ ?_
      cases h5 : hasB 43 keyB s with
      | true => exact isNm_no fun h => by rw [h5] at h; exact absurd h.2.2.2.2 (by decide)
      | false => exact isNm_yes ⟨h1,h2,H3.out,fun i hi => H4.out i (Nat.zero_le _) hi,h5⟩
     clear hall h4
     go_enter func209,ntmps209
     go_wp2_with (first | (go_at_call 230; refine (isSmall_any _ _).mono ?_; rintro e w' ⟨rfl,rfl⟩; rw [H3.out]) | (go_at_call 226; refine (behindName_any s 0 (Nat.zero_le _) (by omega) _).mono ?_; rintro e w' ⟨rfl,rfl⟩) | (go_at_call 249; refine (isKey_any _ _).mono ?_; rintro e w' ⟨rfl,hf⟩))
     go_ret
     exact ⟨by rw [HR.out]; rfl,hf⟩
    ·have ht : (((run part s 0 : Nat) : Int) == ((s.size : Nat) : Int)) = false := by rw [beq_eq_false_iff_ne]; omega
     have HR : Hid (isNm s = false) := h_ (isNm_no fun h => h4 (hall.2 fun k _ hk => h.2.2.2.1 k hk))
     clear hall h4
     go_enter func209,ntmps209
     go_wp2_with (first | (go_at_call 230; refine (isSmall_any _ _).mono ?_; rintro e w' ⟨rfl,rfl⟩; rw [H3.out]) | (go_at_call 226; refine (behindName_any s 0 (Nat.zero_le _) (by omega) _).mono ?_; rintro e w' ⟨rfl,rfl⟩))
     go_ret
     exact ⟨by rw [HR.out]; rfl,Fr.refl _⟩
   | false =>
    have HR : Hid (isNm s = false) := h_ (isNm_no fun h => by rw [h3] at h; exact absurd h.2.2.1 (by decide))
    have H3 := h_ h3
    clear h3
    go_enter func209,ntmps209
    go_wp2_with (go_at_call 230; refine (isSmall_any _ _).mono ?_; rintro e w' ⟨rfl,rfl⟩; rw [H3.out])
    go_ret
    exact ⟨by rw [HR.out]; rfl,Fr.refl _⟩
  ·have HR : Hid (isNm s = false) := h_ (isNm_no fun h => h2 h.2.1)
   have h3 : decide ((s.size : Int) ≤ 24) = false := decide_eq_false (by omega)
   go_enter func209,ntmps209
   go_wp2
   go_ret
   exact ⟨by rw [HR.out]; rfl,Fr.refl _⟩
 ·have e1 := emp_yes (show s.size = 0 by omega)
  have HR : Hid (isNm s = false) := h_ (isNm_no fun h => h1 h.1)
  go_enter func209,ntmps209
  go_wp2
  go_ret
  exact ⟨by rw [HR.out]; rfl,Fr.refl _⟩
theorem RIsName_any (s : ByteArray) (w : World) : Calls prog 182 #[.string s] w fun e w' => e = .returned (.bool (isNm s)) ∧ Fr w w' := by
 by_cases h1 : 0 < s.size
 ·have e1 : (((s.size : Nat) : Int) == 0) = false := by rw [beq_eq_false_iff_ne]; omega
  by_cases h2 : s.size ≤ 24
  ·have hb := bt_at s 0 h1
   have e2 : decide ((24 : Int) < s.size) = false := decide_eq_false (by omega)
   cases h3 : small (bt s 0) with
   | true =>
    have H3 := h_ h3
    clear h3
    cases h5 : hasB 43 keyB s with
    | true =>
     have HR : Hid (isNm s = false) := h_ (isNm_no fun h => by rw [h5] at h; exact absurd h.2.2.2.2 (by decide))
     have H5 := h_ h5
     clear h5
     go_enter func182,ntmps182
     go_wp2_with (first | (go_at_call 174; refine (RisSmall_any _ _).mono ?_; rintro e w' ⟨rfl,rfl⟩; rw [H3.out]) | (go_at_call 184; refine (RKeys_any _).mono ?_; rintro e w1 ⟨g,rfl,hr,hf⟩; have HRW := h_ hr; clear hr) | (go_at_call 183; refine (has_any _ _ 0 43 43 (by omega) s keyB (fun i hi => by rw [Nat.zero_add]; exact HRW.out.cell hi)).mono ?_; rintro e w2 ⟨rfl,rfl⟩; rw [H5.out]))
     go_ret
     exact ⟨by rw [HR.out]; rfl,hf⟩
    | false =>
     have H5 := h_ h5
     clear h5
     go_enter func182,ntmps182
     go_wp2_with (first | (go_at_call 174; refine (RisSmall_any _ _).mono ?_; rintro e w' ⟨rfl,rfl⟩; rw [H3.out]) | (go_at_call 184; refine (RKeys_any _).mono ?_; rintro e w1 ⟨g,rfl,hr,hf⟩; have HRW := h_ hr; clear hr) | (go_at_call 183; refine (has_any _ _ 0 43 43 (by omega) s keyB (fun i hi => by rw [Nat.zero_add]; exact HRW.out.cell hi)).mono ?_; rintro e w2 ⟨rfl,rfl⟩; rw [H5.out]))
     go_loop [3] (fun i => ∃ k : Nat,k ≤ s.size ∧ i = .int .i64 k ∧ ∀ j,j < k → part (bt s j) = true) (fun i => s.size - (intOf i).toNat)
     case atStart => exact ⟨0,Nat.zero_le _,rfl,fun j hj => absurd hj (by omega)⟩
     case round =>
      obtain ⟨k,hk,rfl,hall⟩ := hrel
      have HA := h_ hall
      clear hall
      by_cases hlt : k < s.size
      ·have hbk := bt_at s k hlt
       cases hp : part (bt s k) with
       | true =>
        have HP := h_ hp
        clear hp
        go_wp2_with (go_at_call 223; refine (isPart_any _ _).mono ?_; rintro e w' ⟨rfl,rfl⟩; rw [HP.out])
        go_round
        case rel => exact ⟨k + 1,by omega,by go_num,fun j hj => by by_cases hjk : j = k; { rw [hjk]; exact HP.out }; exact HA.out j (by omega)⟩
        case measure => simp [intOf]; omega
       | false =>
        have HR : Hid (isNm s = false) := h_ (isNm_no fun h => by have := h.2.2.2.1 k hlt; rw [hp] at this; exact absurd this (by decide))
        have HP := h_ hp
        clear hp
        go_wp2_with (go_at_call 223; refine (isPart_any _ _).mono ?_; rintro e w' ⟨rfl,rfl⟩; rw [HP.out])
        go_ret
        exact ⟨by rw [HR.out]; rfl,hf⟩
      ·obtain rfl : k = s.size := by omega
       have HR : Hid (isNm s = true) := h_ (isNm_yes ⟨h1,h2,H3.out,HA.out,H5.out⟩)
       go_wp2
       go_ret
       exact ⟨by rw [HR.out]; rfl,hf⟩
   | false =>
    have HR : Hid (isNm s = false) := h_ (isNm_no fun h => by rw [h3] at h; exact absurd h.2.2.1 (by decide))
    have H3 := h_ h3
    clear h3
    go_enter func182,ntmps182
    go_wp2_with (go_at_call 174; refine (RisSmall_any _ _).mono ?_; rintro e w' ⟨rfl,rfl⟩; rw [H3.out])
    go_ret
    exact ⟨by rw [HR.out]; rfl,Fr.refl _⟩
  ·have HR : Hid (isNm s = false) := h_ (isNm_no fun h => h2 h.2.1)
   have h3 : decide ((24 : Int) < s.size) = true := decide_eq_true (by omega)
   go_enter func182,ntmps182
   go_wp2
   go_ret
   exact ⟨by rw [HR.out]; rfl,Fr.refl _⟩
 ·have e1 : (((s.size : Nat) : Int) == 0) = true := by rw [beq_iff_eq]; omega
  have HR : Hid (isNm s = false) := h_ (isNm_no fun h => h1 h.1)
  go_enter func182,ntmps182
  go_wp2
  go_ret
  exact ⟨by rw [HR.out]; rfl,Fr.refl _⟩
def eo (c : Nat) : Nat := if c = 10 then 110 else if c = 9 then 116 else if c = 42 ∨ c = 34 then c else 0
def eOk (c : Nat) : Bool := decide (c = 10 ∨ c = 9 ∨ c = 42 ∨ c = 34)
theorem eo_le {c : Nat} (h : c < 256) : eo c < 256 := by
 unfold eo
 repeat' split
 all_goals omega
theorem escapeOf_any (c : Nat) (w : World) : Calls prog 207 #[.int .u8 c] w fun e w' => e = .returned (.tuple #[.int .u8 (eo c : Nat),.bool (eOk c)]) ∧ w = w' := by
 by_cases h1 : c = 10
 ·subst h1; go_enter func207,ntmps207
  go_wp2; go_ret2; exact ⟨rfl,rfl⟩
 by_cases h2 : c = 9
 ·subst h2; go_enter func207,ntmps207
  go_wp2; go_ret2; exact ⟨rfl,rfl⟩
 by_cases h4 : c = 42
 ·subst h4; go_enter func207,ntmps207
  go_wp2; go_ret2; exact ⟨rfl,rfl⟩
 by_cases h6 : c = 34
 ·subst h6; go_enter func207,ntmps207
  go_wp2; go_ret2; exact ⟨rfl,rfl⟩
 rw [show eo c = 0 from by unfold eo; rw [if_neg h1,if_neg h2,if_neg (by omega)],show eOk c = false from decide_eq_false (by omega)]
 have e1 : ((c : Int) == 10) = false := by rw [beq_eq_false_iff_ne]; omega
 have e2 : ((c : Int) == 9) = false := by rw [beq_eq_false_iff_ne]; omega
 have e4 : ((c : Int) == 42) = false := by rw [beq_eq_false_iff_ne]; omega
 have e6 : ((c : Int) == 34) = false := by rw [beq_eq_false_iff_ne]; omega
 clear h1 h2 h4 h6
 go_enter func207,ntmps207
 go_wp2; go_ret2; exact ⟨rfl,rfl⟩
def okq (c : Nat) : Bool := eOk c || plain c
def eq1 (c : Nat) : List Nat := if eOk c = true then [42,eo c] else [c]
def qk (s : ByteArray) : Nat → List Nat
 | 0 => [34]
 | k + 1 => qk s k ++ eq1 (bt s k)
theorem eq1_len (c : Nat) : 1 ≤ (eq1 c).length ∧ (eq1 c).length ≤ 2 := by unfold eq1; split <;> simp
theorem qk_len (s : ByteArray) : ∀ k,1 + k ≤ (qk s k).length ∧ (qk s k).length ≤ 1 + 2 * k
 | 0 => by simp [qk]
 | k + 1 => by
  have h1 := qk_len s k
  have h2 := eq1_len (bt s k)
  rw [qk,List.length_append]; omega
structure Tx where
 t : ByteArray
 e : Nat
def quo (s : ByteArray) : Tx := if run okq s 0 < s.size then ⟨nul,3⟩ else if 100 < s.size then ⟨nul,2⟩ else ⟨ofL (qk s s.size ++ [34]),0⟩
theorem sl_two (W : World) (x y : Value) (T : TypeId) : SlV (W.alloc (.cells #[x,y] T)) (.slice (some ⟨W.heap.size,0,none⟩) 2 2) 2 (fun i => if i = 0 then x else y) :=
 ⟨_,2,rfl,fun _ => ⟨W.heap.size,0,rfl,fun i hi => by
  have : i = 0 ∨ i = 1 := by omega
  rcases this with rfl | rfl <;> simp⟩⟩
theorem u8s_app (l m : List Nat) : u8s (l ++ m) = u8s l ++ u8s m := by unfold u8s; rw [List.map_append]
theorem run_step_ok {p : Nat → Bool} {s : ByteArray} {k : Nat} (hr : run p s 0 = run p s k) (hk : k < s.size) (h : p (bt s k) = true) : run p s 0 = run p s (k + 1) := by
 rw [hr,run_inside hk h]
theorem Quote_any (s : ByteArray) (hs : s.size ≤ 2000000) (w : World) :
 Calls prog 140 #[.string s] w fun e w' => e = .returned (.tuple #[.string (quo s).t,.int .i64 (quo s).e]) ∧ Fr w w' := by
 obtain ⟨u0,hi0,hz0,hz1,hz2⟩ := info_parts Tryz.infoU8
 have HU := h_ (And.intro hi0 (And.intro hz0 (And.intro hz1 hz2)))
 obtain ⟨w0,hw0⟩ : ∃ w0,w0 = w.alloc (.cells #[.int .u8 34] 5) := ⟨_,rfl⟩
 have hf0 : Fr w w0 := by rw [hw0]; exact (Fr.refl w).alloc _
 have HO0 : Hid (w0.ownsRow w.heap.size 5 1 (.slice (some ⟨w.heap.size,0,none⟩) 1 1) (qk s 0).length (u8s (qk s 0))) := h_ (by rw [hw0]; exact World.ownsRow_lit w #[.int .u8 34] 1 (Nat.le_refl _) (by decide) rfl)
 have HF0 := h_ hf0
 have HW0 := h_ hw0
 clear hi0 hz0 hz1 hz2 hw0 hf0
 go_enter func140,ntmps140
 go_wp2_with fail
 rw [← HW0.out]
 go_loopw [4,12] (fun o i wr => ∃ k : Nat,k ≤ s.size ∧ i = .int .i64 k ∧ Hid (run okq s 0 = run okq s k) ∧ wr.ownsRow w.heap.size 5 1 o (qk s k).length (u8s (qk s k)) ∧ Fr w wr) (fun _ i _ => s.size - (intOf i).toNat)
 case atStart => exact ⟨0,Nat.zero_le _,rfl,h_ rfl,HO0.out,HF0.out⟩
 case round =>
  obtain ⟨k,hk,rfl,HR,hown,hfr⟩ := hrel
  have HO := h_ hown
  have HL := h_ (qk_len s k)
  clear hown
  by_cases hlt : k < s.size
  ·have hb := bt_at s k hlt
   have hd : decide ((k : Int) < (s.size : Int)) = true := decide_eq_true (by omega)
   have hbl := bt_lt s k
   obtain ⟨c,hc⟩ : ∃ c,c = bt s k := ⟨_,rfl⟩
   rw [← hc] at hb hbl
   have HC := h_ hc
   clear hc
   cases he : eOk c with
   | true =>
    have HE := h_ he
    have HQ : Hid (qk s (k + 1) = qk s k ++ [42,eo c]) := h_ (by rw [qk,← HC.out]; unfold eq1; rw [if_pos he])
    have HRN := h_ (h_ (run_step_ok HR.out hlt (by rw [← HC.out]; unfold okq; rw [he]; rfl)))
    have hel := eo_le hbl
    clear he
    go_wp2_with fail
    refine (escapeOf_any c _).mono ?_
    rintro e w1 ⟨rfl,rfl⟩
    rw [HE.out]
    go_wp2_with (with_reducible refine stop_append ?_)
    unfold Stop
    refine wpList_append_sl rfl (.tmp 25) (.tmp 27) 54 rfl w.heap.size 5 u0 _ 1 underlying54 HU.out.1 HU.out.2.1 HU.out.2.2.1 HU.out.2.2.2 rfl _ (qk s k).length _ rfl (own_keep HO.out ((Fr.refl _).alloc _)) _ 2 (fun i => if i = 0 then .int .u8 42 else .int .u8 (eo c : Nat)) rfl (sl_two _ _ _ _) (fun j => by split <;> rfl) (by have := HL.out; unfold maxLen; omega) (by have := HL.out; omega) (Nat.le_trans (hfr.alloc _).size (Nat.le_refl _)) ?_
    intro v' wA hown hg
    have hown2 : wA.ownsRow w.heap.size 5 1 v' (qk s k ++ [42,eo c]).length (u8s (qk s k ++ [42,eo c])) := by
     rw [u8s_app,List.length_append]; exact hown
    have HOA := h_ hown2
    have hfA := own_fr (hfr.alloc _) (own_keep HO.out ((Fr.refl _).alloc _)) hg
    clear hown hg hown2
    go_wp2_with fail
    go_roundw
    case rel => exact ⟨k + 1,by omega,by go_num,HRN.out,by rw [HQ.out]; exact HOA.out,hfA⟩
    case measure => simp [intOf]; omega
   | false =>
    have HE := h_ he
    cases hp : plain c with
    | true =>
     have HP := h_ hp
     have HQ : Hid (qk s (k + 1) = qk s k ++ [c]) := h_ (by rw [qk,← HC.out]; unfold eq1; rw [if_neg (by rw [he]; decide)])
     have HRN := h_ (h_ (run_step_ok HR.out hlt (by rw [← HC.out]; unfold okq; rw [hp,Bool.or_true])))
     clear he hp
     go_wp2_with fail
     refine (escapeOf_any c _).mono ?_
     rintro e w1 ⟨rfl,rfl⟩
     rw [HE.out]
     go_wp2_with fail
     refine (isPlain_any c _).mono ?_
     rintro e w1 ⟨rfl,rfl⟩
     rw [HP.out]
     go_wp2_with (with_reducible refine stop_append ?_)
     unfold Stop
     refine wpList_append_sl rfl (.tmp 32) (.tmp 34) 54 rfl w.heap.size 5 u0 _ 1 underlying54 HU.out.1 HU.out.2.1 HU.out.2.2.1 HU.out.2.2.2 rfl _ (qk s k).length _ rfl (own_keep HO.out ((Fr.refl _).alloc _)) _ 1 (fun _ => .int .u8 (c : Nat)) rfl (sl_one _ _ _) (fun _ => rfl) (by have := HL.out; unfold maxLen; omega) (by have := HL.out; omega) (Nat.le_trans (hfr.alloc _).size (Nat.le_refl _)) ?_
     intro v' wA hown hg
     have hown2 : wA.ownsRow w.heap.size 5 1 v' (qk s k ++ [c]).length (u8s (qk s k ++ [c])) := by
      rw [u8s_app,List.length_append]; exact hown
     have HOA := h_ hown2
     have hfA := own_fr (hfr.alloc _) (own_keep HO.out ((Fr.refl _).alloc _)) hg
     clear hown hg hown2
     go_wp2_with fail
     go_roundw
     case rel => exact ⟨k + 1,by omega,by go_num,HRN.out,by rw [HQ.out]; exact HOA.out,hfA⟩
     case measure => simp [intOf]; omega
    | false =>
     have HP := h_ hp
     have HN : Hid (quo s = ⟨nul,3⟩) := h_ (by
      have : run okq s 0 = k := by rw [HR.out,run_out (by rw [← HC.out]; unfold okq; rw [he,hp]; rfl)]
      unfold quo; rw [this,if_pos hlt])
     clear he hp
     go_wp2_with fail
     refine (escapeOf_any c _).mono ?_
     rintro e w1 ⟨rfl,rfl⟩
     rw [HE.out]
     go_wp2_with fail
     refine (isPlain_any c _).mono ?_
     rintro e w1 ⟨rfl,rfl⟩
     rw [HP.out]
     go_wp2_with fail
     go_ret2
     rw [HN.out]
     exact ⟨rfl,hfr⟩
  ·have hd : decide ((k : Int) < (s.size : Int)) = false := decide_eq_false (by omega)
   obtain rfl : k = s.size := by omega
   have hr0 : run okq s 0 = s.size := by rw [HR.out,run_end (Nat.le_refl _)]
   by_cases h100 : 100 < s.size
   ·have HN : Hid (quo s = ⟨nul,2⟩) := h_ (by unfold quo; rw [hr0,if_neg (by omega),if_pos h100])
    have hd2 : decide ((100 : Int) < (s.size : Int)) = true := decide_eq_true (by omega)
    clear hr0
    go_wp2_with fail
    go_ret2
    rw [HN.out]
    exact ⟨rfl,hfr⟩
   ·have HN : Hid (quo s = ⟨ofL (qk s s.size ++ [34]),0⟩) := h_ (by unfold quo; rw [hr0,if_neg (by omega),if_neg h100])
    have hd2 : decide ((100 : Int) < (s.size : Int)) = false := decide_eq_false (by omega)
    clear hr0
    go_wp2_with (with_reducible refine stop_append ?_)
    unfold Stop
    refine wpList_append_sl rfl (.tmp 40) (.tmp 41) 54 rfl w.heap.size 5 u0 _ 1 underlying54 HU.out.1 HU.out.2.1 HU.out.2.2.1 HU.out.2.2.2 rfl _ (qk s s.size).length _ rfl (own_keep HO.out ((Fr.refl _).alloc _)) _ 1 (fun _ => .int .u8 34) rfl (sl_one _ _ _) (fun _ => rfl) (by have := HL.out; unfold maxLen; omega) (by have := HL.out; omega) (Nat.le_trans (hfr.alloc _).size (Nat.le_refl _)) ?_
    intro v' wA hown hg
    have hown2 : wA.ownsRow w.heap.size 5 1 v' (qk s s.size ++ [34]).length (u8s (qk s s.size ++ [34])) := by
     rw [u8s_app,List.length_append]; exact hown
    have HOA := h_ hown2
    have hfA := own_fr (hfr.alloc _) (own_keep HO.out ((Fr.refl _).alloc _)) hg
    clear hown hg hown2
    have hcv := conv_list (P := prog) underlying54 underlying5 HOA.out 9 underlying9
    go_wp2_with fail
    go_ret2
    rw [HN.out]
    exact ⟨rfl,hfA⟩
end Go.Proofs.YtbaelbafhdjlnaaGreatDoor
