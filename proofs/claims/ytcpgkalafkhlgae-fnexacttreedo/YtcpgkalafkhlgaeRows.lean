/-
  No cell of these rows narrows 'for every input' (looked for: loops, veiled, ifaces, maps, wideKeys, modest, calm, conditions, laid).
  DERIVED. THE GIVEN ROWS OF THIS SEAT. 6 by the template 'for every input the law returns true; each argument reads behind the call as it read before'; 0 by the template 'total and deterministic' (their statements: YtcpgkalafkhlgaeTotals.lean).
  GIVEN WITH THE SEED: the statements are not yours to turn. If you find one false, say at which input.
  Laid BY PROGRAM, IN A SANDBOX (cutbox-rows.mjs): the forced cells as the released guide's own fill.sh prints them over the translation d055e376003a9a60… (all of the seat's roots in one cut). By AI agents, Wed Nov 11 2026. No macro, syntax, notation, axiom, sorry.
-/
import Derived.Test.YtcpgkalafkhlgaeChecked
import GoSem.Claim
import GoSem.ClaimJoined
import GoSem.ClaimMapViews
import Derived.JoinedTies
import Derived.KernelRfl
namespace Go.Proofs.Ytcpgkalafkhlgae
/- THE CELL 'sum', in the pinned program and in every row, IS THE sha256 OF THE DUMP (.gsa) THAT YtcpgkalafkhlgaeProg.lean LOADS. Nothing in Lean hashes anything: it is a label: what it is worth is what the hold of that sum in a sandbox is worth. -/
noncomputable def Try.pinned : Pinned := { name := "ytcpgkalafkhlgae", sum := "d055e376003a9a60aa1fcf8691d17a330f14a8477bb5f7389ca0420dd41bf66d", checked := Try.checked }
namespace Rows
def none {H : Type} : Left H := { results := [], args := [] }

/-- 'laws.FnExactOpsRead': WHATEVER THE INPUT: true; the input reads as it did. -/
def fnExactOpsReadSpec : ChangeSpec := { name := "fnExactOpsRead", fn := fun _ => fun
  | [d] => { results := [.lit (.bool true)], args := [d] }
  | _ => none }
def fnExactOpsReadRow : OpenClaim := { program := "ytcpgkalafkhlgae", sum := "d055e376003a9a60aa1fcf8691d17a330f14a8477bb5f7389ca0420dd41bf66d", func := "loop.example/g00378/laws.FnExactOpsRead", spec := "fnExactOpsRead", unfollowed := true, recurses := true, apart := false }
def FnExactOpsReadSaid : Prop := fnExactOpsReadRow.holds Try.pinned (OpenSpec.ofChange fnExactOpsReadSpec)

/-- ITS FALSE NEIGHBOUR: 'it returns false'. Refute it at one input. -/
def fnExactOpsReadWrong : ChangeSpec := { name := "fnExactOpsRead", fn := fun _ => fun
  | [d] => { results := [.lit (.bool false)], args := [d] }
  | _ => none }
def FnExactOpsReadWrongFalsely : Prop := fnExactOpsReadRow.holds Try.pinned (OpenSpec.ofChange fnExactOpsReadWrong)

/-- 'laws.FnExactLogAdd': WHATEVER THE INPUT: true; the input reads as it did. -/
def fnExactLogAddSpec : ChangeSpec := { name := "fnExactLogAdd", fn := fun _ => fun
  | [d1, d2] => { results := [.lit (.bool true)], args := [d1, d2] }
  | _ => none }
def fnExactLogAddRow : OpenClaim := { program := "ytcpgkalafkhlgae", sum := "d055e376003a9a60aa1fcf8691d17a330f14a8477bb5f7389ca0420dd41bf66d", func := "loop.example/g00378/laws.FnExactLogAdd", spec := "fnExactLogAdd", unfollowed := true, recurses := true, apart := false }
def FnExactLogAddSaid : Prop := fnExactLogAddRow.holds Try.pinned (OpenSpec.ofChange fnExactLogAddSpec)

/-- ITS FALSE NEIGHBOUR: 'it returns false'. Refute it at one input. -/
def fnExactLogAddWrong : ChangeSpec := { name := "fnExactLogAdd", fn := fun _ => fun
  | [d1, d2] => { results := [.lit (.bool false)], args := [d1, d2] }
  | _ => none }
def FnExactLogAddWrongFalsely : Prop := fnExactLogAddRow.holds Try.pinned (OpenSpec.ofChange fnExactLogAddWrong)

/-- 'laws.FnExactTreeRight': WHATEVER THE INPUT: true; the input reads as it did. -/
def fnExactTreeRightSpec : ChangeSpec := { name := "fnExactTreeRight", fn := fun _ => fun
  | [d] => { results := [.lit (.bool true)], args := [d] }
  | _ => none }
def fnExactTreeRightRow : OpenClaim := { program := "ytcpgkalafkhlgae", sum := "d055e376003a9a60aa1fcf8691d17a330f14a8477bb5f7389ca0420dd41bf66d", func := "loop.example/g00378/laws.FnExactTreeRight", spec := "fnExactTreeRight", unfollowed := true, recurses := true, apart := false }
def FnExactTreeRightSaid : Prop := fnExactTreeRightRow.holds Try.pinned (OpenSpec.ofChange fnExactTreeRightSpec)

/-- ITS FALSE NEIGHBOUR: 'it returns false'. Refute it at one input. -/
def fnExactTreeRightWrong : ChangeSpec := { name := "fnExactTreeRight", fn := fun _ => fun
  | [d] => { results := [.lit (.bool false)], args := [d] }
  | _ => none }
def FnExactTreeRightWrongFalsely : Prop := fnExactTreeRightRow.holds Try.pinned (OpenSpec.ofChange fnExactTreeRightWrong)

/-- 'laws.FnExactTreeDo': WHATEVER THE INPUT: true; the input reads as it did. -/
def fnExactTreeDoSpec : ChangeSpec := { name := "fnExactTreeDo", fn := fun _ => fun
  | [d1, d2] => { results := [.lit (.bool true)], args := [d1, d2] }
  | _ => none }
def fnExactTreeDoRow : OpenClaim := { program := "ytcpgkalafkhlgae", sum := "d055e376003a9a60aa1fcf8691d17a330f14a8477bb5f7389ca0420dd41bf66d", func := "loop.example/g00378/laws.FnExactTreeDo", spec := "fnExactTreeDo", unfollowed := true, recurses := true, apart := false }
def FnExactTreeDoSaid : Prop := fnExactTreeDoRow.holds Try.pinned (OpenSpec.ofChange fnExactTreeDoSpec)

/-- ITS FALSE NEIGHBOUR: 'it returns false'. Refute it at one input. -/
def fnExactTreeDoWrong : ChangeSpec := { name := "fnExactTreeDo", fn := fun _ => fun
  | [d1, d2] => { results := [.lit (.bool false)], args := [d1, d2] }
  | _ => none }
def FnExactTreeDoWrongFalsely : Prop := fnExactTreeDoRow.holds Try.pinned (OpenSpec.ofChange fnExactTreeDoWrong)

/-- 'laws.FnExactTreeOf': WHATEVER THE INPUT: true; the input reads as it did. -/
def fnExactTreeOfSpec : ChangeSpec := { name := "fnExactTreeOf", fn := fun _ => fun
  | [d] => { results := [.lit (.bool true)], args := [d] }
  | _ => none }
def fnExactTreeOfRow : OpenClaim := { program := "ytcpgkalafkhlgae", sum := "d055e376003a9a60aa1fcf8691d17a330f14a8477bb5f7389ca0420dd41bf66d", func := "loop.example/g00378/laws.FnExactTreeOf", spec := "fnExactTreeOf", unfollowed := true, recurses := true, apart := false }
def FnExactTreeOfSaid : Prop := fnExactTreeOfRow.holds Try.pinned (OpenSpec.ofChange fnExactTreeOfSpec)

/-- ITS FALSE NEIGHBOUR: 'it returns false'. Refute it at one input. -/
def fnExactTreeOfWrong : ChangeSpec := { name := "fnExactTreeOf", fn := fun _ => fun
  | [d] => { results := [.lit (.bool false)], args := [d] }
  | _ => none }
def FnExactTreeOfWrongFalsely : Prop := fnExactTreeOfRow.holds Try.pinned (OpenSpec.ofChange fnExactTreeOfWrong)

/-- 'laws.FnExactAbove': WHATEVER THE INPUT: true; the input reads as it did. -/
def fnExactAboveSpec : ChangeSpec := { name := "fnExactAbove", fn := fun _ => fun
  | [d1, d2, d3] => { results := [.lit (.bool true)], args := [d1, d2, d3] }
  | _ => none }
def fnExactAboveRow : OpenClaim := { program := "ytcpgkalafkhlgae", sum := "d055e376003a9a60aa1fcf8691d17a330f14a8477bb5f7389ca0420dd41bf66d", func := "loop.example/g00378/laws.FnExactAbove", spec := "fnExactAbove", unfollowed := true, recurses := true, apart := false }
def FnExactAboveSaid : Prop := fnExactAboveRow.holds Try.pinned (OpenSpec.ofChange fnExactAboveSpec)

/-- ITS FALSE NEIGHBOUR: 'it returns false'. Refute it at one input. -/
def fnExactAboveWrong : ChangeSpec := { name := "fnExactAbove", fn := fun _ => fun
  | [d1, d2, d3] => { results := [.lit (.bool false)], args := [d1, d2, d3] }
  | _ => none }
def FnExactAboveWrongFalsely : Prop := fnExactAboveRow.holds Try.pinned (OpenSpec.ofChange fnExactAboveWrong)

/- THE SECOND FORM. 'bulk': how many values and letters a reading holds, each counted each time it is reached (what is shared counts as often as it is met; a slice's spare places count too). A statement '..UptoSaid' is the law's where the arguments, and the package variables that the reading takes, are together of bulk at most 1048576: NARROWER than '..Said'. Prove '..Said' where nothing that the law and all that it calls make is longer than what came in: it says more and counts as full. Else prove '..UptoSaid'. A law counts once. -/
mutual
def uptoBulk {H : Type} : DataW H → Nat
  | .lit (.string bytes) => bytes.length + 1
  | .lit _ => 1
  | .nil => 1
  | .ptr d => uptoBulk d + 1
  | .slice elems spare => uptoBulkAll elems + uptoBulkAll spare + 1
  | .agg parts => uptoBulkAll parts + 1
  | .iface _ d => uptoBulk d + 1
  | .map entries => uptoBulkEntries entries + 1
  | .held _ => 1
def uptoBulkAll {H : Type} : List (DataW H) → Nat
  | [] => 0
  | d :: r => uptoBulk d + uptoBulkAll r
def uptoBulkEntries {H : Type} : List (Lit × DataW H) → Nat
  | [] => 0
  | x :: r => uptoBulkEntry x + uptoBulkEntries r
def uptoBulkEntry {H : Type} : Lit × DataW H → Nat
  | (.string bytes, d) => bytes.length + uptoBulk d + 1
  | (_, d) => uptoBulk d + 1
 end
def uptoSmall : (H : Type) → List (DataW H) → Bool := fun _ ds => decide (uptoBulkAll ds ≤ 1048576)
def OpenSpec.upto (s : _root_.Go.ChangeSpec) : _root_.Go.OpenSpec := { _root_.Go.OpenSpec.ofChange s with cond := some uptoSmall }

/-- 'laws.FnExactOpsRead', WHERE WHAT IT READS IS OF BULK AT MOST 1048576: true; the input reads as it did. -/
def fnExactOpsReadUptoRow : OpenClaim := { program := "ytcpgkalafkhlgae", sum := "d055e376003a9a60aa1fcf8691d17a330f14a8477bb5f7389ca0420dd41bf66d", func := "loop.example/g00378/laws.FnExactOpsRead", spec := "fnExactOpsRead", unfollowed := true, recurses := true, apart := false, narrowed := true }
def FnExactOpsReadUptoSaid : Prop := fnExactOpsReadUptoRow.holds Try.pinned (OpenSpec.upto fnExactOpsReadSpec)

/-- 'laws.FnExactLogAdd', WHERE WHAT IT READS IS OF BULK AT MOST 1048576: true; the input reads as it did. -/
def fnExactLogAddUptoRow : OpenClaim := { program := "ytcpgkalafkhlgae", sum := "d055e376003a9a60aa1fcf8691d17a330f14a8477bb5f7389ca0420dd41bf66d", func := "loop.example/g00378/laws.FnExactLogAdd", spec := "fnExactLogAdd", unfollowed := true, recurses := true, apart := false, narrowed := true }
def FnExactLogAddUptoSaid : Prop := fnExactLogAddUptoRow.holds Try.pinned (OpenSpec.upto fnExactLogAddSpec)

/-- 'laws.FnExactTreeRight', WHERE WHAT IT READS IS OF BULK AT MOST 1048576: true; the input reads as it did. -/
def fnExactTreeRightUptoRow : OpenClaim := { program := "ytcpgkalafkhlgae", sum := "d055e376003a9a60aa1fcf8691d17a330f14a8477bb5f7389ca0420dd41bf66d", func := "loop.example/g00378/laws.FnExactTreeRight", spec := "fnExactTreeRight", unfollowed := true, recurses := true, apart := false, narrowed := true }
def FnExactTreeRightUptoSaid : Prop := fnExactTreeRightUptoRow.holds Try.pinned (OpenSpec.upto fnExactTreeRightSpec)

/-- 'laws.FnExactTreeDo', WHERE WHAT IT READS IS OF BULK AT MOST 1048576: true; the input reads as it did. -/
def fnExactTreeDoUptoRow : OpenClaim := { program := "ytcpgkalafkhlgae", sum := "d055e376003a9a60aa1fcf8691d17a330f14a8477bb5f7389ca0420dd41bf66d", func := "loop.example/g00378/laws.FnExactTreeDo", spec := "fnExactTreeDo", unfollowed := true, recurses := true, apart := false, narrowed := true }
def FnExactTreeDoUptoSaid : Prop := fnExactTreeDoUptoRow.holds Try.pinned (OpenSpec.upto fnExactTreeDoSpec)

/-- 'laws.FnExactTreeOf', WHERE WHAT IT READS IS OF BULK AT MOST 1048576: true; the input reads as it did. -/
def fnExactTreeOfUptoRow : OpenClaim := { program := "ytcpgkalafkhlgae", sum := "d055e376003a9a60aa1fcf8691d17a330f14a8477bb5f7389ca0420dd41bf66d", func := "loop.example/g00378/laws.FnExactTreeOf", spec := "fnExactTreeOf", unfollowed := true, recurses := true, apart := false, narrowed := true }
def FnExactTreeOfUptoSaid : Prop := fnExactTreeOfUptoRow.holds Try.pinned (OpenSpec.upto fnExactTreeOfSpec)

/-- 'laws.FnExactAbove', WHERE WHAT IT READS IS OF BULK AT MOST 1048576: true; the input reads as it did. -/
def fnExactAboveUptoRow : OpenClaim := { program := "ytcpgkalafkhlgae", sum := "d055e376003a9a60aa1fcf8691d17a330f14a8477bb5f7389ca0420dd41bf66d", func := "loop.example/g00378/laws.FnExactAbove", spec := "fnExactAbove", unfollowed := true, recurses := true, apart := false, narrowed := true }
def FnExactAboveUptoSaid : Prop := fnExactAboveUptoRow.holds Try.pinned (OpenSpec.upto fnExactAboveSpec)

end Rows
end Go.Proofs.Ytcpgkalafkhlgae
