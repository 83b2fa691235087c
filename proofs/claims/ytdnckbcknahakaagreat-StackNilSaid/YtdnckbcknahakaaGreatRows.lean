/-
  No cell of these rows narrows 'for every input' (looked for: loops, veiled, ifaces, maps, wideKeys, modest, calm, conditions, laid).
  DERIVED. THE GIVEN ROWS OF THIS SEAT. 4 by the template 'for every input the law returns true; each argument reads behind the call as it read before'; 0 by the template 'total and deterministic' (their statements: YtdnckbcknahakaaGreatTotals.lean).
  GIVEN WITH THE SEED: the statements are not yours to turn. If you find one false, say at which input.
  Laid BY PROGRAM, IN A SANDBOX (cutbox-rows.mjs): the forced cells as the released guide's own fill.sh prints them over the translation 8ef5557b22cd7edc… (all of the seat's roots in one cut). By AI agents, Wed Nov 11 2026. No macro, syntax, notation, axiom, sorry.
-/
import Derived.Test.YtdnckbcknahakaaGreatChecked
import GoSem.Claim
import GoSem.ClaimJoined
import GoSem.ClaimMapViews
import Derived.JoinedTies
import Derived.KernelRfl
namespace Go.Proofs.YtdnckbcknahakaaGreat
/- THE CELL 'sum', in the pinned program and in every row, IS THE sha256 OF THE DUMP (.gsa) THAT YtdnckbcknahakaaGreatProg.lean LOADS. Nothing in Lean hashes anything: it is a label: what it is worth is what the hold of that sum in a sandbox is worth. -/
noncomputable def Tryz.pinned : Pinned := { name := "ytdnckbcknahakaagreat", sum := "8ef5557b22cd7edc1a6cb554b8b2aaf75d82abd1aeac14a5bacfea481e7e54f1", checked := Tryz.checked }
namespace Rows
def none {H : Type} : Left H := { results := [], args := [] }

/-- 'bluebelllaw08.StackNil': WHATEVER THE INPUT: true; the input reads as it did. -/
def stackNilSpec : ChangeSpec := { name := "stackNil", fn := fun _ => fun
  | [d1, d2] => { results := [.lit (.bool true)], args := [d1, d2] }
  | _ => none }
def stackNilRow : OpenClaim := { program := "ytdnckbcknahakaagreat", sum := "8ef5557b22cd7edc1a6cb554b8b2aaf75d82abd1aeac14a5bacfea481e7e54f1", func := "bluebell/bluebelllaw08.StackNil", spec := "stackNil", inPlace := ["slices.overlaps[int]", "internal/abi.NoEscape"], unfollowed := true, recurses := true, apart := false }
def StackNilSaid : Prop := stackNilRow.holds Tryz.pinned (OpenSpec.ofChange stackNilSpec)

/-- ITS FALSE NEIGHBOUR: 'it returns false'. Refute it at one input. -/
def stackNilWrong : ChangeSpec := { name := "stackNil", fn := fun _ => fun
  | [d1, d2] => { results := [.lit (.bool false)], args := [d1, d2] }
  | _ => none }
def StackNilWrongFalsely : Prop := stackNilRow.holds Tryz.pinned (OpenSpec.ofChange stackNilWrong)

/-- 'bluebelllaw08.StackPieces': WHATEVER THE INPUT: true; the input reads as it did. -/
def stackPiecesSpec : ChangeSpec := { name := "stackPieces", fn := fun _ => fun
  | [d1, d2, d3] => { results := [.lit (.bool true)], args := [d1, d2, d3] }
  | _ => none }
def stackPiecesRow : OpenClaim := { program := "ytdnckbcknahakaagreat", sum := "8ef5557b22cd7edc1a6cb554b8b2aaf75d82abd1aeac14a5bacfea481e7e54f1", func := "bluebell/bluebelllaw08.StackPieces", spec := "stackPieces", inPlace := ["slices.overlaps[int]", "internal/abi.NoEscape"], unfollowed := true, recurses := true, apart := false }
def StackPiecesSaid : Prop := stackPiecesRow.holds Tryz.pinned (OpenSpec.ofChange stackPiecesSpec)

/-- ITS FALSE NEIGHBOUR: 'it returns false'. Refute it at one input. -/
def stackPiecesWrong : ChangeSpec := { name := "stackPieces", fn := fun _ => fun
  | [d1, d2, d3] => { results := [.lit (.bool false)], args := [d1, d2, d3] }
  | _ => none }
def StackPiecesWrongFalsely : Prop := stackPiecesRow.holds Tryz.pinned (OpenSpec.ofChange stackPiecesWrong)

/-- 'bluebelllaw08.StackSums': WHATEVER THE INPUT: true; the input reads as it did. -/
def stackSumsSpec : ChangeSpec := { name := "stackSums", fn := fun _ => fun
  | [d] => { results := [.lit (.bool true)], args := [d] }
  | _ => none }
def stackSumsRow : OpenClaim := { program := "ytdnckbcknahakaagreat", sum := "8ef5557b22cd7edc1a6cb554b8b2aaf75d82abd1aeac14a5bacfea481e7e54f1", func := "bluebell/bluebelllaw08.StackSums", spec := "stackSums", inPlace := ["slices.overlaps[int]", "internal/abi.NoEscape"], unfollowed := true, recurses := true, apart := false }
def StackSumsSaid : Prop := stackSumsRow.holds Tryz.pinned (OpenSpec.ofChange stackSumsSpec)

/-- ITS FALSE NEIGHBOUR: 'it returns false'. Refute it at one input. -/
def stackSumsWrong : ChangeSpec := { name := "stackSums", fn := fun _ => fun
  | [d] => { results := [.lit (.bool false)], args := [d] }
  | _ => none }
def StackSumsWrongFalsely : Prop := stackSumsRow.holds Tryz.pinned (OpenSpec.ofChange stackSumsWrong)

/-- 'bluebelllaw08.StackMore': WHATEVER THE INPUT: true; the input reads as it did. -/
def stackMoreSpec : ChangeSpec := { name := "stackMore", fn := fun _ => fun
  | [d1, d2] => { results := [.lit (.bool true)], args := [d1, d2] }
  | _ => none }
def stackMoreRow : OpenClaim := { program := "ytdnckbcknahakaagreat", sum := "8ef5557b22cd7edc1a6cb554b8b2aaf75d82abd1aeac14a5bacfea481e7e54f1", func := "bluebell/bluebelllaw08.StackMore", spec := "stackMore", inPlace := ["slices.overlaps[int]", "internal/abi.NoEscape"], unfollowed := true, recurses := true, apart := false }
def StackMoreSaid : Prop := stackMoreRow.holds Tryz.pinned (OpenSpec.ofChange stackMoreSpec)

/-- ITS FALSE NEIGHBOUR: 'it returns false'. Refute it at one input. -/
def stackMoreWrong : ChangeSpec := { name := "stackMore", fn := fun _ => fun
  | [d1, d2] => { results := [.lit (.bool false)], args := [d1, d2] }
  | _ => none }
def StackMoreWrongFalsely : Prop := stackMoreRow.holds Tryz.pinned (OpenSpec.ofChange stackMoreWrong)

/- THE SECOND FORM. 'bulk': how many values and letters a reading holds, each counted each time it is reached (what is shared counts as often as it is met; a slice's spare places count too). A statement '..UptoSaid' is the law's where the arguments, and the package variables that the reading takes, are together of bulk at most 1048576: NARROWER than '..Said'. Prove '..Said' where nothing that the law and all that it calls make is longer than what came in: it says more and counts as full. Else prove '..UptoSaid'. A law counts once. -/
mutual
def uptoBulk {H : Type} : DataW H → Nat
  | .lit (.string bytes) => bytes.length + 1
  | .lit _ => 1
  | .nil => 1
  | .ptr d => uptoBulk d + 1
  | .slice elems spare => uptoBulkAll elems + uptoBulkAll spare + 1
  | .agg parts => uptoBulkAll parts + 1
  | .iface _ d => uptoBulk d + 1
  | .map entries => uptoBulkEntries entries + 1
  | .held _ => 1
def uptoBulkAll {H : Type} : List (DataW H) → Nat
  | [] => 0
  | d :: r => uptoBulk d + uptoBulkAll r
def uptoBulkEntries {H : Type} : List (Lit × DataW H) → Nat
  | [] => 0
  | x :: r => uptoBulkEntry x + uptoBulkEntries r
def uptoBulkEntry {H : Type} : Lit × DataW H → Nat
  | (.string bytes, d) => bytes.length + uptoBulk d + 1
  | (_, d) => uptoBulk d + 1
 end
def uptoSmall : (H : Type) → List (DataW H) → Bool := fun _ ds => decide (uptoBulkAll ds ≤ 1048576)
def OpenSpec.upto (s : _root_.Go.ChangeSpec) : _root_.Go.OpenSpec := { _root_.Go.OpenSpec.ofChange s with cond := some uptoSmall }

/-- 'bluebelllaw08.StackNil', WHERE WHAT IT READS IS OF BULK AT MOST 1048576: true; the input reads as it did. -/
def stackNilUptoRow : OpenClaim := { program := "ytdnckbcknahakaagreat", sum := "8ef5557b22cd7edc1a6cb554b8b2aaf75d82abd1aeac14a5bacfea481e7e54f1", func := "bluebell/bluebelllaw08.StackNil", spec := "stackNil", inPlace := ["slices.overlaps[int]", "internal/abi.NoEscape"], unfollowed := true, recurses := true, apart := false, narrowed := true }
def StackNilUptoSaid : Prop := stackNilUptoRow.holds Tryz.pinned (OpenSpec.upto stackNilSpec)

/-- 'bluebelllaw08.StackPieces', WHERE WHAT IT READS IS OF BULK AT MOST 1048576: true; the input reads as it did. -/
def stackPiecesUptoRow : OpenClaim := { program := "ytdnckbcknahakaagreat", sum := "8ef5557b22cd7edc1a6cb554b8b2aaf75d82abd1aeac14a5bacfea481e7e54f1", func := "bluebell/bluebelllaw08.StackPieces", spec := "stackPieces", inPlace := ["slices.overlaps[int]", "internal/abi.NoEscape"], unfollowed := true, recurses := true, apart := false, narrowed := true }
def StackPiecesUptoSaid : Prop := stackPiecesUptoRow.holds Tryz.pinned (OpenSpec.upto stackPiecesSpec)

/-- 'bluebelllaw08.StackSums', WHERE WHAT IT READS IS OF BULK AT MOST 1048576: true; the input reads as it did. -/
def stackSumsUptoRow : OpenClaim := { program := "ytdnckbcknahakaagreat", sum := "8ef5557b22cd7edc1a6cb554b8b2aaf75d82abd1aeac14a5bacfea481e7e54f1", func := "bluebell/bluebelllaw08.StackSums", spec := "stackSums", inPlace := ["slices.overlaps[int]", "internal/abi.NoEscape"], unfollowed := true, recurses := true, apart := false, narrowed := true }
def StackSumsUptoSaid : Prop := stackSumsUptoRow.holds Tryz.pinned (OpenSpec.upto stackSumsSpec)

/-- 'bluebelllaw08.StackMore', WHERE WHAT IT READS IS OF BULK AT MOST 1048576: true; the input reads as it did. -/
def stackMoreUptoRow : OpenClaim := { program := "ytdnckbcknahakaagreat", sum := "8ef5557b22cd7edc1a6cb554b8b2aaf75d82abd1aeac14a5bacfea481e7e54f1", func := "bluebell/bluebelllaw08.StackMore", spec := "stackMore", inPlace := ["slices.overlaps[int]", "internal/abi.NoEscape"], unfollowed := true, recurses := true, apart := false, narrowed := true }
def StackMoreUptoSaid : Prop := stackMoreUptoRow.holds Tryz.pinned (OpenSpec.upto stackMoreSpec)

end Rows
end Go.Proofs.YtdnckbcknahakaaGreat
