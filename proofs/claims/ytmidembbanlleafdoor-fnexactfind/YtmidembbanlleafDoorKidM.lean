/- The children of a number, by their names, those of one name by their numbers: as spec puts them in. Plain mathematics. -/
import Derived.Test.YtmidembbanlleafDoorICh
import Derived.Test.YtmidembbanlleafDoorITreeM
namespace Go.Proofs.YtmidembbanlleafDoor.OpR
open Go.ChangeShapes Go.WideShapes Go.ChangeAt Go.RowKit
set_option linter.unusedVariables false

def leName (q n : NodG) : Bool := !keyLt n.name q.name
def insC (n : NodG) : List NodG → List NodG
  | [] => [n]
  | q :: r => if leName q n = true then q :: insC n r else n :: q :: r
/-- The children that are among the first ones. -/
def kidsTo (y : Int) : List NodG → List NodG → List NodG
  | s, [] => s
  | s, n :: r => kidsTo y (if n.parent = y then insC n s else s) r
def kids (l : List NodG) (y : Int) : List NodG := kidsTo y [] l
theorem kidsTo_app (y : Int) : ∀ (s a b : List NodG), kidsTo y s (a ++ b) = kidsTo y (kidsTo y s a) b
  | _, [], _ => rfl
  | s, n :: r, b => by simp only [List.cons_append, kidsTo]; exact kidsTo_app y _ r b
theorem insC_perm (n : NodG) : ∀ s : List NodG, (insC n s).Perm (n :: s)
  | [] => List.Perm.refl _
  | q :: r => by
    unfold insC
    split
    · exact ((insC_perm n r).cons q).trans (List.Perm.swap n q r)
    · exact List.Perm.refl _
theorem insC_ord {n : NodG} : ∀ {s : List NodG}, OrdC s → (∀ q ∈ s, q.id < n.id) → OrdC (insC n s)
  | [], _, _ => by simp [insC, OrdC]
  | q :: r, h, hi => by
    have hq := List.pairwise_cons.1 h
    unfold insC
    split
    · rename_i hn
      have hlt : leC q n = true := by
        rw [leC_cases]
        left
        rw [ltC_iff]
        cases e : keyLt q.name n.name with
        | true => exact .inl rfl
        | false =>
          have : keyLt n.name q.name = false := by simpa [leName] using hn
          exact .inr ⟨kl_tri e this, hi q (by simp)⟩
      refine List.pairwise_cons.2 ⟨fun x hx => ?_, insC_ord hq.2 (fun z hz => hi z (by simp [hz]))⟩
      rcases List.mem_cons.1 ((insC_perm n r).mem_iff.1 hx) with rfl | hx
      · exact hlt
      · exact hq.1 x hx
    · rename_i hn
      have hlt : leC n q = true := by
        rw [leC_cases]
        left
        rw [ltC_iff]
        left
        simpa [leName] using hn
      refine List.pairwise_cons.2 ⟨fun x hx => ?_, h⟩
      rcases List.mem_cons.1 hx with rfl | hx
      · exact hlt
      · exact leC_trans hlt (hq.1 x hx)
theorem kidsTo_perm (y : Int) : ∀ (s l : List NodG), (kidsTo y s l).Perm (s ++ kidsOf y l)
  | s, [] => by simp [kidsTo, kidsOf]
  | s, n :: r => by
    unfold kidsTo
    by_cases h : n.parent = y
    · rw [if_pos h]
      refine (kidsTo_perm y _ r).trans ?_
      have e : kidsOf y (n :: r) = n :: kidsOf y r := by simp [kidsOf, h]
      rw [e]
      exact ((insC_perm n s).append_right _).trans (List.perm_middle.symm)
    · rw [if_neg h]
      have e : kidsOf y (n :: r) = kidsOf y r := by simp [kidsOf, h]
      rw [e]
      exact kidsTo_perm y s r
theorem kidsTo_ord (y : Int) : ∀ (s l : List NodG), OrdC s → (∀ q ∈ s, ∀ n ∈ l, q.id < n.id) → (l.Pairwise fun a b => a.id < b.id) → OrdC (kidsTo y s l)
  | s, [], h, _, _ => h
  | s, n :: r, h, hi, hp => by
    obtain ⟨hp1, hp2⟩ := List.pairwise_cons.1 hp
    unfold kidsTo
    by_cases e : n.parent = y
    · rw [if_pos e]
      refine kidsTo_ord y _ r (insC_ord h (fun q hq => hi q hq n (by simp))) (fun q hq m hm => ?_) hp2
      rcases List.mem_cons.1 ((insC_perm n s).mem_iff.1 hq) with rfl | hq
      · exact hp1 m hm
      · exact hi q hq m (by simp [hm])
    · rw [if_neg e]
      exact kidsTo_ord y s r h (fun q hq m hm => hi q hq m (by simp [hm])) hp2
theorem rises_pair {l : List NodG} (h : RisesN l) : l.Pairwise fun a b => a.id < b.id :=
  List.pairwise_iff_getElem.2 fun i j hi hj hij => rises_lt h i j hij hj
theorem ordC_eq : ∀ {s t : List NodG}, s.Perm t → OrdC s → OrdC t → (t.Pairwise fun a b => a.id ≠ b.id) → s = t
  | [], t, hp, _, _, _ => by rw [hp.nil_eq]
  | x :: s, [], hp, _, _, _ => absurd hp.length_eq (by simp)
  | x :: s, z :: t, hp, hs, ht, hd => by
    obtain ⟨hs1, hs2⟩ := List.pairwise_cons.1 hs
    obtain ⟨ht1, ht2⟩ := List.pairwise_cons.1 ht
    obtain ⟨hd1, hd2⟩ := List.pairwise_cons.1 hd
    have e : x = z := by
      rcases List.mem_cons.1 (hp.mem_iff.1 (List.mem_cons_self (a := x) (l := s))) with h | h
      · exact h
      · have h1 := ht1 x h
        have h2 : leC x z = true := by
          rcases List.mem_cons.1 (hp.mem_iff.2 (List.mem_cons_self (a := z) (l := t))) with h3 | h3
          · subst h3; exact absurd rfl (hd1 z h)
          · exact hs1 z h3
        rw [leC_cases] at h1 h2
        rcases h1 with h1 | ⟨_, h1⟩
        · rcases h2 with h2 | ⟨_, h2⟩
          · have := leC_false ((leC_cases x z).2 (.inl h2))
            rw [h1] at this; cases this
          · exact absurd h2.symm (hd1 x h)
        · exact absurd h1 (hd1 x h)
    subst e
    rw [ordC_eq (List.Perm.cons_inv hp) hs2 ht2 hd2]
theorem kids_is {l s xs : List NodG} {y : Int} (hr : RisesN l) (ha : AllK (kvOf l) xs) (hp : s.Perm (kidsOf y xs)) (ho : OrdC s) : s = kids l y := by
  have hk : (kids l y).Perm (kidsOf y l) := kidsTo_perm y [] l
  have hd : (kids l y).Pairwise fun a b => a.id ≠ b.id := by
    refine (hk.pairwise_iff (fun {a b} (h : a.id ≠ b.id) => Ne.symm h)).2 ?_
    exact (List.Pairwise.filter _ (rises_pair hr)).imp (fun h => Int.ne_of_lt h)
  refine ordC_eq (hp.trans (((perm_of ha hr).filter _).trans hk.symm)) ho (kidsTo_ord y [] l (by simp [OrdC]) (by simp) (rises_pair hr)) hd
theorem kids_mem {l : List NodG} {y : Int} {n : NodG} : n ∈ kids l y ↔ n ∈ l ∧ n.parent = y := by
  have hk : (kids l y).Perm (kidsOf y l) := kidsTo_perm y [] l
  rw [hk.mem_iff]
  simp [kidsOf]
theorem kids_len (l : List NodG) (y : Int) : (kids l y).length ≤ l.length := by
  have hk : (kids l y).Perm (kidsOf y l) := kidsTo_perm y [] l
  rw [hk.length_eq]
  exact List.length_filter_le _ _
end Go.Proofs.YtmidembbanlleafDoor.OpR
