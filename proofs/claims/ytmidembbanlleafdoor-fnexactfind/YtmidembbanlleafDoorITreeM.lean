/- Proves what a map of nodes makes as a tree: impl's (nodeMap).tree. -/
import Derived.Test.YtmidembbanlleafDoorColl
import Derived.Test.YtmidembbanlleafDoorSrtN
import Derived.Test.YtmidembbanlleafDoorOwnN
namespace Go.Proofs.YtmidembbanlleafDoor.OpR
open Go.ChangeShapes Go.WideShapes Go.ChangeAt Go.RowKit
set_option linter.unusedVariables false

theorem rises_pw {l : List NodG} (h : RisesN l) : l.Pairwise fun a b => a.id < b.id := by
  rw [List.pairwise_iff_getElem]
  exact fun i j hi hj hij => rises_lt h i j hij hj
theorem sorted_is : ∀ {s l : List NodG}, s.Perm l → OrdN s → (l.Pairwise fun a b => a.id < b.id) → s = l
  | [], l, hp, _, _ => (List.nil_perm.1 hp).symm
  | x :: s, [], hp, _, _ => absurd hp.length_eq (by simp)
  | x :: s, y :: l, hp, ho, hl => by
    have ho' := List.pairwise_cons.1 ho
    have hl' := List.pairwise_cons.1 hl
    have hxy : x = y := by
      rcases List.mem_cons.1 (hp.mem_iff.1 (List.mem_cons_self (a := x) (l := s))) with e | hx
      · exact e
      · rcases List.mem_cons.1 (hp.mem_iff.2 (List.mem_cons_self (a := y) (l := l))) with e | hy
        · exact e.symm
        · have h1 := hl'.1 x hx
          have h2 := (leN_iff x y).1 (ho'.1 y hy)
          omega
    subst hxy
    rw [sorted_is (List.Perm.cons_inv hp) ho'.2 hl'.2]
theorem kvOf_snd (l : List NodG) : (kvOf l).map Prod.snd = l := by simp [kvOf, Function.comp_def]
theorem kvOf_fst (l : List NodG) : (kvOf l).map Prod.fst = l.map NodG.id := by simp [kvOf, Function.comp_def]
theorem kvOf_nodup {l : List NodG} (h : RisesN l) : ((kvOf l).map Prod.fst).Nodup := by
  rw [kvOf_fst]
  exact List.Pairwise.map _ (fun a b hab => by omega) (rises_pw h)
theorem perm_of {l xs : List NodG} (h : AllK (kvOf l) xs) (hr : RisesN l) : xs.Perm l := by
  have := h.perm (kvOf_nodup hr)
  rwa [kvOf_snd] at this
end Go.Proofs.YtmidembbanlleafDoor.OpR
