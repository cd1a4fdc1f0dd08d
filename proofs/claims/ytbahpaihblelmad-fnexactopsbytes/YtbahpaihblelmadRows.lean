/-
  No cell of these rows narrows 'for every input' (looked for: loops, veiled, ifaces, maps, wideKeys, modest, calm, conditions, laid).
  DERIVED. THE GIVEN ROWS OF THIS SEAT. 6 by the template 'for every input the law returns true; each argument reads behind the call as it read before'; 0 by the template 'total and deterministic' (their statements: YtbahpaihblelmadTotals.lean).
  GIVEN WITH THE SEED: the statements are not yours to turn. If you find one false, say at which input.
  Laid BY PROGRAM, IN A SANDBOX (cutbox-rows.mjs): the forced cells as the released guide's own fill.sh prints them over the translation 6c4cf4f2d531012c… (all of the seat's roots in one cut). By AI agents, Wed Nov 11 2026. No macro, syntax, notation, axiom, sorry.
-/
import Derived.Test.YtbahpaihblelmadChecked
import GoSem.Claim
import GoSem.ClaimJoined
import GoSem.ClaimMapViews
import Derived.JoinedTies
import Derived.KernelRfl
namespace Go.Proofs.Ytbahpaihblelmad
/- THE CELL 'sum', in the pinned program and in every row, IS THE sha256 OF THE DUMP (.gsa) THAT YtbahpaihblelmadProg.lean LOADS. Nothing in Lean hashes anything: it is a label: what it is worth is what the hold of that sum in a sandbox is worth. -/
noncomputable def Try.pinned : Pinned := { name := "ytbahpaihblelmad", sum := "6c4cf4f2d531012cc4860a745573a6f87c0da3ad08f115bb161d8889a16fc672", checked := Try.checked }
namespace Rows
def none {H : Type} : Left H := { results := [], args := [] }

/-- 'laws.FnExactCrcMore': WHATEVER THE INPUT: true; the input reads as it did. -/
def fnExactCrcMoreSpec : ChangeSpec := { name := "fnExactCrcMore", fn := fun _ => fun
  | [d1, d2] => { results := [.lit (.bool true)], args := [d1, d2] }
  | _ => none }
def fnExactCrcMoreRow : OpenClaim := { program := "ytbahpaihblelmad", sum := "6c4cf4f2d531012cc4860a745573a6f87c0da3ad08f115bb161d8889a16fc672", func := "loop.example/g00378/laws.FnExactCrcMore", spec := "fnExactCrcMore", apart := false }
def FnExactCrcMoreSaid : Prop := fnExactCrcMoreRow.holds Try.pinned (OpenSpec.ofChange fnExactCrcMoreSpec)

/-- ITS FALSE NEIGHBOUR: 'it returns false'. Refute it at one input. -/
def fnExactCrcMoreWrong : ChangeSpec := { name := "fnExactCrcMore", fn := fun _ => fun
  | [d1, d2] => { results := [.lit (.bool false)], args := [d1, d2] }
  | _ => none }
def FnExactCrcMoreWrongFalsely : Prop := fnExactCrcMoreRow.holds Try.pinned (OpenSpec.ofChange fnExactCrcMoreWrong)

/-- 'laws.FnExactSeal': WHATEVER THE INPUT: true; the input reads as it did. -/
def fnExactSealSpec : ChangeSpec := { name := "fnExactSeal", fn := fun _ => fun
  | [d] => { results := [.lit (.bool true)], args := [d] }
  | _ => none }
def fnExactSealRow : OpenClaim := { program := "ytbahpaihblelmad", sum := "6c4cf4f2d531012cc4860a745573a6f87c0da3ad08f115bb161d8889a16fc672", func := "loop.example/g00378/laws.FnExactSeal", spec := "fnExactSeal", apart := false }
def FnExactSealSaid : Prop := fnExactSealRow.holds Try.pinned (OpenSpec.ofChange fnExactSealSpec)

/-- ITS FALSE NEIGHBOUR: 'it returns false'. Refute it at one input. -/
def fnExactSealWrong : ChangeSpec := { name := "fnExactSeal", fn := fun _ => fun
  | [d] => { results := [.lit (.bool false)], args := [d] }
  | _ => none }
def FnExactSealWrongFalsely : Prop := fnExactSealRow.holds Try.pinned (OpenSpec.ofChange fnExactSealWrong)

/-- 'laws.FnExactUnseal': WHATEVER THE INPUT: true; the input reads as it did. -/
def fnExactUnsealSpec : ChangeSpec := { name := "fnExactUnseal", fn := fun _ => fun
  | [d] => { results := [.lit (.bool true)], args := [d] }
  | _ => none }
def fnExactUnsealRow : OpenClaim := { program := "ytbahpaihblelmad", sum := "6c4cf4f2d531012cc4860a745573a6f87c0da3ad08f115bb161d8889a16fc672", func := "loop.example/g00378/laws.FnExactUnseal", spec := "fnExactUnseal", apart := false }
def FnExactUnsealSaid : Prop := fnExactUnsealRow.holds Try.pinned (OpenSpec.ofChange fnExactUnsealSpec)

/-- ITS FALSE NEIGHBOUR: 'it returns false'. Refute it at one input. -/
def fnExactUnsealWrong : ChangeSpec := { name := "fnExactUnseal", fn := fun _ => fun
  | [d] => { results := [.lit (.bool false)], args := [d] }
  | _ => none }
def FnExactUnsealWrongFalsely : Prop := fnExactUnsealRow.holds Try.pinned (OpenSpec.ofChange fnExactUnsealWrong)

/-- 'laws.FnExactOpRight': WHATEVER THE INPUT: true; the input reads as it did. -/
def fnExactOpRightSpec : ChangeSpec := { name := "fnExactOpRight", fn := fun _ => fun
  | [d] => { results := [.lit (.bool true)], args := [d] }
  | _ => none }
def fnExactOpRightRow : OpenClaim := { program := "ytbahpaihblelmad", sum := "6c4cf4f2d531012cc4860a745573a6f87c0da3ad08f115bb161d8889a16fc672", func := "loop.example/g00378/laws.FnExactOpRight", spec := "fnExactOpRight", apart := false }
def FnExactOpRightSaid : Prop := fnExactOpRightRow.holds Try.pinned (OpenSpec.ofChange fnExactOpRightSpec)

/-- ITS FALSE NEIGHBOUR: 'it returns false'. Refute it at one input. -/
def fnExactOpRightWrong : ChangeSpec := { name := "fnExactOpRight", fn := fun _ => fun
  | [d] => { results := [.lit (.bool false)], args := [d] }
  | _ => none }
def FnExactOpRightWrongFalsely : Prop := fnExactOpRightRow.holds Try.pinned (OpenSpec.ofChange fnExactOpRightWrong)

/-- 'laws.FnExactOpsRight': WHATEVER THE INPUT: true; the input reads as it did. -/
def fnExactOpsRightSpec : ChangeSpec := { name := "fnExactOpsRight", fn := fun _ => fun
  | [d] => { results := [.lit (.bool true)], args := [d] }
  | _ => none }
def fnExactOpsRightRow : OpenClaim := { program := "ytbahpaihblelmad", sum := "6c4cf4f2d531012cc4860a745573a6f87c0da3ad08f115bb161d8889a16fc672", func := "loop.example/g00378/laws.FnExactOpsRight", spec := "fnExactOpsRight", unfollowed := true, recurses := true, apart := false }
def FnExactOpsRightSaid : Prop := fnExactOpsRightRow.holds Try.pinned (OpenSpec.ofChange fnExactOpsRightSpec)

/-- ITS FALSE NEIGHBOUR: 'it returns false'. Refute it at one input. -/
def fnExactOpsRightWrong : ChangeSpec := { name := "fnExactOpsRight", fn := fun _ => fun
  | [d] => { results := [.lit (.bool false)], args := [d] }
  | _ => none }
def FnExactOpsRightWrongFalsely : Prop := fnExactOpsRightRow.holds Try.pinned (OpenSpec.ofChange fnExactOpsRightWrong)

/-- 'laws.FnExactOpsBytes': WHATEVER THE INPUT: true; the input reads as it did. -/
def fnExactOpsBytesSpec : ChangeSpec := { name := "fnExactOpsBytes", fn := fun _ => fun
  | [d] => { results := [.lit (.bool true)], args := [d] }
  | _ => none }
def fnExactOpsBytesRow : OpenClaim := { program := "ytbahpaihblelmad", sum := "6c4cf4f2d531012cc4860a745573a6f87c0da3ad08f115bb161d8889a16fc672", func := "loop.example/g00378/laws.FnExactOpsBytes", spec := "fnExactOpsBytes", unfollowed := true, recurses := true, apart := false }
def FnExactOpsBytesSaid : Prop := fnExactOpsBytesRow.holds Try.pinned (OpenSpec.ofChange fnExactOpsBytesSpec)

/-- ITS FALSE NEIGHBOUR: 'it returns false'. Refute it at one input. -/
def fnExactOpsBytesWrong : ChangeSpec := { name := "fnExactOpsBytes", fn := fun _ => fun
  | [d] => { results := [.lit (.bool false)], args := [d] }
  | _ => none }
def FnExactOpsBytesWrongFalsely : Prop := fnExactOpsBytesRow.holds Try.pinned (OpenSpec.ofChange fnExactOpsBytesWrong)

/- THE SECOND FORM. 'bulk': how many values and letters a reading holds, each counted each time it is reached (what is shared counts as often as it is met; a slice's spare places count too). A statement '..UptoSaid' is the law's where the arguments, and the package variables that the reading takes, are together of bulk at most 1048576: NARROWER than '..Said'. Prove '..Said' where nothing that the law and all that it calls make is longer than what came in: it says more and counts as full. Else prove '..UptoSaid'. A law counts once. -/
mutual
def uptoBulk {H : Type} : DataW H → Nat
  | .lit (.string bytes) => bytes.length + 1
  | .lit _ => 1
  | .nil => 1
  | .ptr d => uptoBulk d + 1
  | .slice elems spare => uptoBulkAll elems + uptoBulkAll spare + 1
  | .agg parts => uptoBulkAll parts + 1
  | .iface _ d => uptoBulk d + 1
  | .map entries => uptoBulkEntries entries + 1
  | .held _ => 1
def uptoBulkAll {H : Type} : List (DataW H) → Nat
  | [] => 0
  | d :: r => uptoBulk d + uptoBulkAll r
def uptoBulkEntries {H : Type} : List (Lit × DataW H) → Nat
  | [] => 0
  | x :: r => uptoBulkEntry x + uptoBulkEntries r
def uptoBulkEntry {H : Type} : Lit × DataW H → Nat
  | (.string bytes, d) => bytes.length + uptoBulk d + 1
  | (_, d) => uptoBulk d + 1
 end
def uptoSmall : (H : Type) → List (DataW H) → Bool := fun _ ds => decide (uptoBulkAll ds ≤ 1048576)
def OpenSpec.upto (s : _root_.Go.ChangeSpec) : _root_.Go.OpenSpec := { _root_.Go.OpenSpec.ofChange s with cond := some uptoSmall }

/-- 'laws.FnExactCrcMore', WHERE WHAT IT READS IS OF BULK AT MOST 1048576: true; the input reads as it did. -/
def fnExactCrcMoreUptoRow : OpenClaim := { program := "ytbahpaihblelmad", sum := "6c4cf4f2d531012cc4860a745573a6f87c0da3ad08f115bb161d8889a16fc672", func := "loop.example/g00378/laws.FnExactCrcMore", spec := "fnExactCrcMore", apart := false, narrowed := true }
def FnExactCrcMoreUptoSaid : Prop := fnExactCrcMoreUptoRow.holds Try.pinned (OpenSpec.upto fnExactCrcMoreSpec)

/-- 'laws.FnExactSeal', WHERE WHAT IT READS IS OF BULK AT MOST 1048576: true; the input reads as it did. -/
def fnExactSealUptoRow : OpenClaim := { program := "ytbahpaihblelmad", sum := "6c4cf4f2d531012cc4860a745573a6f87c0da3ad08f115bb161d8889a16fc672", func := "loop.example/g00378/laws.FnExactSeal", spec := "fnExactSeal", apart := false, narrowed := true }
def FnExactSealUptoSaid : Prop := fnExactSealUptoRow.holds Try.pinned (OpenSpec.upto fnExactSealSpec)

/-- 'laws.FnExactUnseal', WHERE WHAT IT READS IS OF BULK AT MOST 1048576: true; the input reads as it did. -/
def fnExactUnsealUptoRow : OpenClaim := { program := "ytbahpaihblelmad", sum := "6c4cf4f2d531012cc4860a745573a6f87c0da3ad08f115bb161d8889a16fc672", func := "loop.example/g00378/laws.FnExactUnseal", spec := "fnExactUnseal", apart := false, narrowed := true }
def FnExactUnsealUptoSaid : Prop := fnExactUnsealUptoRow.holds Try.pinned (OpenSpec.upto fnExactUnsealSpec)

/-- 'laws.FnExactOpRight', WHERE WHAT IT READS IS OF BULK AT MOST 1048576: true; the input reads as it did. -/
def fnExactOpRightUptoRow : OpenClaim := { program := "ytbahpaihblelmad", sum := "6c4cf4f2d531012cc4860a745573a6f87c0da3ad08f115bb161d8889a16fc672", func := "loop.example/g00378/laws.FnExactOpRight", spec := "fnExactOpRight", apart := false, narrowed := true }
def FnExactOpRightUptoSaid : Prop := fnExactOpRightUptoRow.holds Try.pinned (OpenSpec.upto fnExactOpRightSpec)

/-- 'laws.FnExactOpsRight', WHERE WHAT IT READS IS OF BULK AT MOST 1048576: true; the input reads as it did. -/
def fnExactOpsRightUptoRow : OpenClaim := { program := "ytbahpaihblelmad", sum := "6c4cf4f2d531012cc4860a745573a6f87c0da3ad08f115bb161d8889a16fc672", func := "loop.example/g00378/laws.FnExactOpsRight", spec := "fnExactOpsRight", unfollowed := true, recurses := true, apart := false, narrowed := true }
def FnExactOpsRightUptoSaid : Prop := fnExactOpsRightUptoRow.holds Try.pinned (OpenSpec.upto fnExactOpsRightSpec)

/-- 'laws.FnExactOpsBytes', WHERE WHAT IT READS IS OF BULK AT MOST 1048576: true; the input reads as it did. -/
def fnExactOpsBytesUptoRow : OpenClaim := { program := "ytbahpaihblelmad", sum := "6c4cf4f2d531012cc4860a745573a6f87c0da3ad08f115bb161d8889a16fc672", func := "loop.example/g00378/laws.FnExactOpsBytes", spec := "fnExactOpsBytes", unfollowed := true, recurses := true, apart := false, narrowed := true }
def FnExactOpsBytesUptoSaid : Prop := fnExactOpsBytesUptoRow.holds Try.pinned (OpenSpec.upto fnExactOpsBytesSpec)

end Rows
end Go.Proofs.Ytbahpaihblelmad
