/- Proves what a comparison of two ops as wholes tells. -/
import Derived.Test.YtlphcbgeagmopaaOpM
import Derived.Laws.StructEq
namespace Go.Proofs.Ytlphcbgeagmopaa.OpR
open Go.ChangeShapes Go.WideShapes Go.ChangeAt Go.RowKit
set_option linter.unusedVariables false

set_option maxRecDepth 100000 in
set_option maxHeartbeats 400000 in
theorem neq_ops (a b : OpV) (W : World) : (binOp .neq 40 a.agg b.agg).run Try.prog W = .ok (.bool (!sameOp a b)) W := by
  unfold OpV.agg
  simp [go_sem]
  by_cases h : a = b
  · subst h
    simp [same_true]
  · rw [same_false h]
    repeat' split
    all_goals first | rfl | skip
    exfalso
    rename_i h0 h1 h2 h3 h4 h5 h6
    refine h ?_
    obtain ⟨a0, a1, a2, a3, a4, a5, a6⟩ := a
    obtain ⟨b0, b1, b2, b3, b4, b5, b6⟩ := b
    simp only at h0 h1 h2 h3 h4 h5 h6
    rw [ByteArray.toList_eq, ByteArray.toList_eq] at h5 h6
    rw [h0, h1, h2, h3, h4, ByteArray.ext (Array.toList_inj.1 h5), ByteArray.ext (Array.toList_inj.1 h6)]
end Go.Proofs.Ytlphcbgeagmopaa.OpR
