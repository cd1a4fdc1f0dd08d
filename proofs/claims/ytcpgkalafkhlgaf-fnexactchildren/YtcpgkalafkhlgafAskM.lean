/- What is asked of trees, as functions of their nodes: a prop's value. -/
import Derived.Test.YtcpgkalafkhlgafTrB
import Derived.Test.YtcpgkalafkhlgafSpV
namespace Go.Proofs.Ytcpgkalafkhlgaf.OpR
open Go.ChangeShapes Go.WideShapes Go.ChangeAt Go.RowKit
set_option linter.unusedVariables false

theorem str_inj {a b : ByteArray} (h : a.toList = b.toList) : a = b := by
  rw [ByteArray.toList_eq, ByteArray.toList_eq] at h
  exact ByteArray.ext (Array.toList_inj.1 h)
/-- The value of the first prop of a key. -/
def valOf (k : ByteArray) : List PropV → ByteArray
  | [] => ⟨#[]⟩
  | p :: r => if p.key = k then p.value else valOf k r
theorem valOf_hit {k : ByteArray} {l : List PropV} {i : Nat} (h : i < l.length) (he : l[i].key = k) : valOf k (l.drop i) = l[i].value := by
  rw [List.drop_eq_getElem_cons h, valOf, if_pos he]
theorem valOf_miss {k : ByteArray} {l : List PropV} {i : Nat} (h : i < l.length) (he : ¬ l[i].key = k) : valOf k (l.drop i) = valOf k (l.drop (i + 1)) := by
  rw [List.drop_eq_getElem_cons h, valOf, if_neg he]
theorem valOf_end (k : ByteArray) (l : List PropV) : valOf k (l.drop l.length) = ⟨#[]⟩ := by
  rw [List.drop_length]; rfl
def propB (l : List NodG) (x : Int) (k : ByteArray) : ByteArray :=
  if k.size ≤ 8000 ∧ treeRight l = true then match nodOf l x with
    | none => ⟨#[]⟩
    | some n => valOf k n.props
  else ⟨#[]⟩
theorem propB_long {l : List NodG} {x : Int} {k : ByteArray} (h : ¬ k.size ≤ 8000) : propB l x k = ⟨#[]⟩ := by
  unfold propB; rw [if_neg (fun e => h e.1)]
theorem propB_wrong {l : List NodG} {x : Int} {k : ByteArray} (h : treeRight l = false) : propB l x k = ⟨#[]⟩ := by
  unfold propB; rw [if_neg (fun e => by rw [h] at e; exact absurd e.2 (by decide))]
theorem propB_none {l : List NodG} {x : Int} {k : ByteArray} (h : nodOf l x = none) : propB l x k = ⟨#[]⟩ := by
  unfold propB; rw [h]; split <;> rfl
theorem propB_some {l : List NodG} {x : Int} {k : ByteArray} {n : NodG} (h1 : k.size ≤ 8000) (h2 : treeRight l = true) (h : nodOf l x = some n) : propB l x k = valOf k n.props := by
  unfold propB; rw [if_pos ⟨h1, h2⟩, h]
theorem propB_alike {l d : List NodG} (h : d.map NodG.bare = l.map NodG.bare) (x : Int) (k : ByteArray) : propB d x k = propB l x k := by
  have e : ∀ l : List NodG, propB (l.map NodG.bare) x k = propB l x k := fun l => by
    unfold propB
    rw [tree_bare, nodOf_bare]
    cases nodOf l x <;> rfl
  rw [← e d, h, e]
end Go.Proofs.Ytcpgkalafkhlgaf.OpR
