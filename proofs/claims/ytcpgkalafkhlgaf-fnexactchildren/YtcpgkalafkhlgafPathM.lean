/- Paths of nodes, as functions of a tree: the names from a node up, and what stands at the way's end. -/
import Derived.Test.YtcpgkalafkhlgafAskM
import Derived.Test.YtcpgkalafkhlgafJoin
namespace Go.Proofs.Ytcpgkalafkhlgaf.OpR
open Go.ChangeShapes Go.WideShapes Go.ChangeAt Go.RowKit
set_option linter.unusedVariables false

def wayN (l : List NodG) : Nat → Int → List ByteArray
  | 0, _ => []
  | k + 1, x => match nodOf l x with
    | none => []
    | some n => n.name :: wayN l k n.parent
def topN (l : List NodG) : Nat → Int → Int
  | 0, x => x
  | k + 1, x => match nodOf l x with
    | none => x
    | some n => topN l k n.parent
/-- The names of a way down, each behind a sign. -/
def pathR : List ByteArray → ByteArray
  | [] => ⟨#[]⟩
  | n :: r => ⟨#[47]⟩ ++ n ++ pathR r
def pathA (d : List ByteArray) : ByteArray := pathR d.reverse
theorem pathA_snoc (d : List ByteArray) (n : ByteArray) : pathA (d ++ [n]) = ⟨#[47]⟩ ++ n ++ pathA d := by
  unfold pathA
  rw [List.reverse_append]
  rfl
theorem way_none {l : List NodG} {x : Int} (h : nodOf l x = none) : ∀ k, wayN l k x = [] ∧ topN l k x = x
  | 0 => ⟨rfl, rfl⟩
  | k + 1 => by simp [wayN, topN, h]
theorem way_some {l : List NodG} {x : Int} {n : NodG} (h : nodOf l x = some n) (k : Nat) : wayN l (k + 1) x = n.name :: wayN l k n.parent ∧ topN l (k + 1) x = topN l k n.parent := by
  simp [wayN, topN, h]
theorem par_of {l : List NodG} {x : Int} {n : NodG} (h : nodOf l x = some n) : par l x = some n.parent := by unfold par; rw [h]; rfl
theorem par_not {l : List NodG} {x : Int} (h : par l x = none) : nodOf l x = none := by
  unfold par at h
  cases e : nodOf l x with
  | none => rfl
  | some n => rw [e] at h; cases h
theorem way_stable {l : List NodG} (h0 : par l 0 = none) (h1 : par l 1 = none) : ∀ {k : Nat} {x : Int}, endsF (par l) k x = true → wayN l (k + 1) x = wayN l k x ∧ topN l (k + 1) x = topN l k x := by
  intro k
  induction k with
  | zero => intro x h; simp [endsF] at h
  | succ k ih =>
    intro x h
    obtain ⟨j, e, hc⟩ := ends_cases h
    obtain rfl := Nat.succ.inj e
    rcases hc with hx | ⟨_, _, z, hz, hk⟩
    · have hn : nodOf l x = none := by rcases hx with rfl | rfl <;> exact par_not (by assumption)
      rw [(way_none hn _).1, (way_none hn _).1, (way_none hn _).2, (way_none hn _).2]
      exact ⟨rfl, rfl⟩
    · cases en : nodOf l x with
      | none => unfold par at hz; rw [en] at hz; cases hz
      | some n =>
        rw [par_of en] at hz
        cases hz
        rw [(way_some en _).1, (way_some en _).1, (way_some en _).2, (way_some en _).2, (ih hk).1, (ih hk).2]
        exact ⟨rfl, rfl⟩
/-- A step of a way up in a right tree. -/
theorem way_step {l : List NodG} (h0 : par l 0 = none) (h1 : par l 1 = none) {x : Int} {n : NodG} (he : endsF (par l) (l.length + 1) x = true) (hn : nodOf l x = some n) :
    endsF (par l) l.length n.parent = true ∧ wayN l (l.length + 1) x = n.name :: wayN l (l.length + 1) n.parent ∧ topN l (l.length + 1) x = topN l (l.length + 1) n.parent ∧ stepsF (par l) (l.length + 1) n.parent < stepsF (par l) (l.length + 1) x := by
  obtain ⟨i, e, hx | ⟨e0, e1, z, hz, hk⟩⟩ := ends_cases he
  · have : nodOf l x = none := by rcases hx with rfl | rfl <;> exact par_not (by assumption)
    rw [this] at hn; cases hn
  · obtain rfl := Nat.succ.inj e
    rw [par_of hn] at hz
    cases hz
    refine ⟨hk, ?_, ?_, ?_⟩
    · rw [(way_some hn _).1, (way_stable h0 h1 hk).1]
    · rw [(way_some hn _).2, (way_stable h0 h1 hk).2]
    · rw [steps_stable hk]
      have e : stepsF (par l) (l.length + 1) x = stepsF (par l) l.length n.parent + 1 := by simp [stepsF, e0, e1, par_of hn]
      omega
/-- Where a way ends. -/
theorem way_end {l : List NodG} {x : Int} (he : endsF (par l) (l.length + 1) x = true) (hn : nodOf l x = none) : x = 0 ∨ x = 1 := by
  obtain ⟨i, e, hx | ⟨e0, e1, z, hz, hk⟩⟩ := ends_cases he
  · exact hx
  · unfold par at hz; rw [hn] at hz; cases hz
theorem steps_le (f : Int → Option Int) : ∀ (k : Nat) (x : Int), stepsF f k x ≤ k
  | 0, _ => Nat.le_refl _
  | k + 1, x => by
    unfold stepsF
    split
    · omega
    · cases f x with
      | none => simp
      | some y => have := steps_le f k y; simp only; omega
theorem pathA_size (d : List ByteArray) (n : ByteArray) : (pathA (d ++ [n])).size = 1 + n.size + (pathA d).size := by
  rw [pathA_snoc, ByteArray.size_append, ByteArray.size_append]
  rfl
def pathB (l : List NodG) (x : Int) : ByteArray :=
  if treeRight l = true ∧ (nodOf l x).isSome = true then
    (if topN l (l.length + 1) x = 1 then ⟨#[126]⟩ ++ pathA (wayN l (l.length + 1) x) else pathA (wayN l (l.length + 1) x))
  else ⟨#[]⟩
theorem pathB_no {l : List NodG} {x : Int} (h : ¬ (treeRight l = true ∧ (nodOf l x).isSome = true)) : pathB l x = ⟨#[]⟩ := by
  unfold pathB; rw [if_neg h]
theorem pathB_yes {l : List NodG} {x : Int} {n : NodG} (h1 : treeRight l = true) (h2 : nodOf l x = some n) : pathB l x = (if topN l (l.length + 1) x = 1 then ⟨#[126]⟩ ++ pathA (wayN l (l.length + 1) x) else pathA (wayN l (l.length + 1) x)) := by
  unfold pathB; rw [if_pos ⟨h1, by rw [h2]; rfl⟩]
theorem way_bare (l : List NodG) : ∀ (k : Nat) (x : Int), wayN (l.map NodG.bare) k x = wayN l k x ∧ topN (l.map NodG.bare) k x = topN l k x
  | 0, _ => ⟨rfl, rfl⟩
  | k + 1, x => by
    simp only [wayN, topN, nodOf_bare]
    cases nodOf l x with
    | none => exact ⟨rfl, rfl⟩
    | some n =>
      have := way_bare l k n.parent
      exact ⟨by simp only [Option.map_some]; rw [show n.bare.parent = n.parent from rfl, this.1]; rfl, this.2⟩
theorem pathB_alike {l d : List NodG} (h : d.map NodG.bare = l.map NodG.bare) (x : Int) : pathB d x = pathB l x := by
  have e : ∀ l : List NodG, pathB (l.map NodG.bare) x = pathB l x := fun l => by
    unfold pathB
    rw [tree_bare, nodOf_bare, Option.isSome_map, List.length_map, (way_bare l _ x).1, (way_bare l _ x).2]
  rw [← e d, h, e]

/-! ### by impl's parts -/
def partsN (d : List ByteArray) : List ByteArray := d.flatMap fun n => [n, ⟨#[47]⟩]
theorem partsN_snoc (d : List ByteArray) (n : ByteArray) : partsN (d ++ [n]) = partsN d ++ [n, ⟨#[47]⟩] := by simp [partsN]
theorem partsN_len (d : List ByteArray) : (partsN d).length = 2 * d.length := by
  induction d with
  | nil => rfl
  | cons a r ih => simp only [partsN, List.flatMap_cons, List.length_append, List.length_cons] at ih ⊢; simp only [List.length_nil]; omega
theorem cat_partsN (d : List ByteArray) : NumR.cat (partsN d).reverse = (pathA d).data.toList := by
  have h : ∀ r : List ByteArray, NumR.cat (partsN r.reverse).reverse = (pathR r).data.toList := by
    intro r
    induction r with
    | nil => rfl
    | cons n r ih =>
      rw [List.reverse_cons, partsN_snoc, List.reverse_append, NumR.cat_append, ih]
      simp [NumR.cat, pathR]
  have := h d.reverse
  rw [List.reverse_reverse] at this
  exact this
theorem cat_top (d : List ByteArray) : NumR.cat (partsN d ++ [(⟨#[126]⟩ : ByteArray)]).reverse = ((⟨#[126]⟩ : ByteArray) ++ pathA d).data.toList := by
  rw [List.reverse_append, NumR.cat_append, cat_partsN]
  simp [NumR.cat]
theorem bytes_back (t : ByteArray) : (⟨t.data.toList.toArray⟩ : ByteArray) = t := by simp
end Go.Proofs.Ytcpgkalafkhlgaf.OpR
