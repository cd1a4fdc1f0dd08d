/- All that lie below a number, in the order of the children at each step. Plain mathematics. -/
import Derived.Test.YtmidembbanlleafDoorUndM
namespace Go.Proofs.YtmidembbanlleafDoor.OpR
open Go.ChangeShapes Go.WideShapes Go.ChangeAt Go.RowKit
set_option linter.unusedVariables false

def dfsF (l : List NodG) : Nat → Int → List NodG
  | 0, _ => []
  | k + 1, y => (kids l y).flatMap fun c => c :: dfsF l k c.id
/-- What lies below a child is less than what lies below the number itself. -/
theorem und_less {l : List NodG} (h : TreeR l) {y : Int} {c : NodG} (hc : c ∈ kids l y) : undN l c.id < undN l y := by
  rw [und_kids h y]
  have : ∀ K : List NodG, c ∈ K → 1 + undN l c.id ≤ wgt l K := fun K hK => by
    induction K with
    | nil => cases hK
    | cons d K ih =>
      rw [wgt_cons]
      rcases List.mem_cons.1 hK with rfl | hK
      · omega
      · have := ih hK; omega
  have := this _ hc
  omega
theorem flatMap_same {K : List NodG} {f g : NodG → List NodG} (h : ∀ c ∈ K, f c = g c) : K.flatMap f = K.flatMap g := by
  induction K with
  | nil => rfl
  | cons c K ih => rw [List.flatMap_cons, List.flatMap_cons, h c (by simp), ih (fun d hd => h d (by simp [hd]))]
theorem dfs_stable {l : List NodG} (h : TreeR l) : ∀ (k j : Nat) (y : Int), undN l y < k → undN l y < j → dfsF l k y = dfsF l j y
  | 0, _, _, hk, _ => by omega
  | _, 0, _, _, hj => by omega
  | k + 1, j + 1, y, hk, hj => by
    show (kids l y).flatMap _ = (kids l y).flatMap _
    refine flatMap_same (fun c hc => ?_)
    have := und_less h hc
    rw [dfs_stable h k j c.id (by omega) (by omega)]
/-- All that lie below a number, as impl goes through them. -/
def dfs (l : List NodG) (y : Int) : List NodG := dfsF l (l.length + 1) y
def dfsR (l : List NodG) (r : List NodG) : List NodG := r.flatMap fun c => c :: dfs l c.id
theorem dfs_step {l : List NodG} (h : TreeR l) (y : Int) : dfs l y = dfsR l (kids l y) := by
  have hy := undN_le l y
  unfold dfs dfsR
  show (kids l y).flatMap _ = _
  refine flatMap_same (fun c hc => ?_)
  have := und_less h hc
  unfold dfs
  rw [dfs_stable h l.length (l.length + 1) c.id (by omega) (by omega)]
theorem dfsR_cons (l : List NodG) (c : NodG) (r : List NodG) : dfsR l (c :: r) = c :: (dfs l c.id ++ dfsR l r) := by simp [dfsR]
theorem dfsR_app (l a b : List NodG) : dfsR l (a ++ b) = dfsR l a ++ dfsR l b := by simp [dfsR]
theorem dfsR_len (l r : List NodG) (hd : ∀ c ∈ r, (dfs l c.id).length = undN l c.id) : (dfsR l r).length = wgt l r := by
  induction r with
  | nil => rfl
  | cons c r ih =>
    rw [dfsR_cons, wgt_cons, List.length_cons, List.length_append, hd c (by simp), ih (fun d h => hd d (by simp [h]))]
    omega
theorem dfs_len {l : List NodG} (h : TreeR l) : ∀ (k : Nat) (y : Int), undN l y < k → (dfs l y).length = undN l y
  | 0, _, hk => by omega
  | k + 1, y, hk => by
    rw [dfs_step h, dfsR_len l _ (fun c hc => dfs_len h k c.id (by have := und_less h hc; omega)), ← und_kids h]

/-- Where the names lead, from y on: as spec looks for it. -/
def findL (f : NodG → Option NodG) : List NodG → Option NodG
  | [] => none
  | c :: r => match f c with
    | some n => some n
    | none => findL f r
def findS (l : List NodG) : List ByteArray → Int → Option NodG
  | [], _ => none
  | s :: r, y => findL (fun c => if c.name.toList = s.toList then (if r.isEmpty = true then some c else findS l r c.id) else none) (kids l y)
theorem findL_cons (f : NodG → Option NodG) (c : NodG) (r : List NodG) : findL f (c :: r) = (f c).or (findL f r) := by
  show (match f c with | some n => some n | none => findL f r) = _
  cases f c <;> rfl
/-- Do the names, from the last one up, lead from n to y: as impl looks. -/
def upOk (l : List NodG) (y : Int) : List ByteArray → NodG → Bool
  | [], _ => false
  | [s], n => decide (n.name.toList = s.toList) && decide (n.parent = y)
  | s :: t :: r, n => decide (n.name.toList = s.toList) && (!decide (n.parent = y) && (match nodOf l n.parent with
    | some p => upOk l y (t :: r) p
    | none => false))
theorem ab_up {l : List NodG} (h : TreeR l) {c : NodG} (hc : c ∈ l) : ∀ (k : Nat) (x : Int), abF (par l) c.id k x = true → abL l c.parent x = true
  | 0, _, hk => by simp [abF] at hk
  | k + 1, x, hk => by
    by_cases hx : x = c.id
    · subst hx
      rw [ab_step h hc, ab_self]
      simp
    · cases hp : par l x with
      | none => simp [abF, hx, hp] at hk
      | some z =>
        have hz := ab_up h hc k z (by simpa [abF, hx, hp] using hk)
        obtain ⟨m, hm, rfl⟩ := Option.map_eq_some_iff.1 hp
        obtain ⟨hml, rfl⟩ := nodOf_some hm
        rw [ab_step h hml, hz]
        simp
theorem dfsR_mem {l K : List NodG} {n : NodG} : n ∈ dfsR l K ↔ ∃ c ∈ K, n = c ∨ n ∈ dfs l c.id := by simp [dfsR]
theorem dfs_ab {l : List NodG} (h : TreeR l) : ∀ (k : Nat) (y : Int), undN l y < k → ∀ n ∈ dfs l y, n ∈ l ∧ abL l y n.parent = true
  | 0, _, hk => by omega
  | k + 1, y, hk => fun n hn => by
    rw [dfs_step h] at hn
    obtain ⟨c, hc, hn⟩ := dfsR_mem.1 hn
    have hm := kids_mem.1 hc
    rcases hn with rfl | hn
    · exact ⟨hm.1, by rw [hm.2]; exact ab_self l y⟩
    · have ih := dfs_ab h k c.id (by have := und_less h hc; omega) n hn
      exact ⟨ih.1, by rw [← hm.2]; exact ab_up h hm.1 _ _ ih.2⟩
theorem dfs_par {l : List NodG} (h : TreeR l) : ∀ (k : Nat) (y : Int), undN l y < k → ∀ n ∈ dfs l y, n.parent = y ∨ ∃ p ∈ dfs l y, nodOf l n.parent = some p
  | 0, _, hk => by omega
  | k + 1, y, hk => fun n hn => by
    rw [dfs_step h] at hn ⊢
    obtain ⟨c, hc, hn⟩ := dfsR_mem.1 hn
    have hm := kids_mem.1 hc
    rcases hn with rfl | hn
    · exact .inl hm.2
    · right
      rcases dfs_par h k c.id (by have := und_less h hc; omega) n hn with e | ⟨p, hp, e⟩
      · exact ⟨c, dfsR_mem.2 ⟨c, hc, .inl rfl⟩, by rw [e]; exact nodOf_mem h.2.1 hm.1⟩
      · exact ⟨p, dfsR_mem.2 ⟨c, hc, .inr hp⟩, e⟩
theorem not_up {l : List NodG} (h : TreeR l) {c n : NodG} (hc : c ∈ l) (hn : n ∈ dfs l c.id) : n.parent ≠ c.parent := fun e => by
  have := (dfs_ab h _ c.id (Nat.lt_succ_self _) n hn).2
  rw [e, no_ring h hc] at this
  cases this
/-- One name more at the top. -/
theorem up_more {l : List NodG} (h : TreeR l) {c : NodG} (hc : c ∈ l) (s : ByteArray) : ∀ (ms : List ByteArray), ms ≠ [] → ∀ n ∈ dfs l c.id, upOk l c.parent (ms ++ [s]) n = (upOk l c.id ms n && decide (c.name.toList = s.toList))
  | [], hm, _, _ => absurd rfl hm
  | [m], _, n, hn => by
    have h1 := not_up h hc hn
    show (decide (n.name.toList = m.toList) && (!decide (n.parent = c.parent) && (match nodOf l n.parent with | some p => upOk l c.parent [s] p | none => false))) = ((decide (n.name.toList = m.toList) && decide (n.parent = c.id)) && decide (c.name.toList = s.toList))
    rcases dfs_par h _ c.id (Nat.lt_succ_self _) n hn with e | ⟨p, hp, e⟩
    · rw [e, nodOf_mem h.2.1 hc]
      rw [e] at h1
      simp only [upOk, h1]
      simp
    · have h2 := not_up h hc hp
      have h3 : n.parent ≠ c.id := fun e2 => by
        rw [e2, nodOf_mem h.2.1 hc] at e
        cases e
        exact h2 rfl
      rw [e]
      simp only [upOk, h2, h3]
      simp
  | m :: t :: r, _, n, hn => by
    have h1 := not_up h hc hn
    show (decide (n.name.toList = m.toList) && (!decide (n.parent = c.parent) && (match nodOf l n.parent with | some p => upOk l c.parent (t :: r ++ [s]) p | none => false))) = ((decide (n.name.toList = m.toList) && (!decide (n.parent = c.id) && (match nodOf l n.parent with | some p => upOk l c.id (t :: r) p | none => false))) && decide (c.name.toList = s.toList))
    rcases dfs_par h _ c.id (Nat.lt_succ_self _) n hn with e | ⟨p, hp, e⟩
    · rw [e, nodOf_mem h.2.1 hc]
      have h4 : upOk l c.parent (t :: r ++ [s]) c = false := by
        cases r <;> simp [upOk]
      simp only [h4]
      simp
    · have h2 := not_up h hc hp
      have h3 : n.parent ≠ c.id := fun e2 => by
        rw [e2, nodOf_mem h.2.1 hc] at e
        cases e
        exact h2 rfl
      rw [e]
      simp only [up_more h hc s (t :: r) (by simp) p hp, h1, h3]
      simp [Bool.and_assoc]
theorem find_none {K : List NodG} {P : NodG → Bool} (h : ∀ n ∈ K, P n = false) : K.find? P = none := List.find?_eq_none.2 (fun n hn => by rw [h n hn]; simp)
theorem find_congr {K : List NodG} {P Q : NodG → Bool} (h : ∀ n ∈ K, P n = Q n) : K.find? P = K.find? Q := by
  induction K with
  | nil => rfl
  | cons c K ih => rw [List.find?_cons, List.find?_cons, h c (by simp), ih (fun n hn => h n (by simp [hn]))]
/-- impl's first one is the one that spec looks for. -/
theorem find_same {l : List NodG} (h : TreeR l) : ∀ (ns : List ByteArray) (y : Int), (dfs l y).find? (upOk l y ns.reverse) = findS l ns y
  | [], y => find_none (fun n hn => rfl)
  | s :: r, y => by
    rw [dfs_step h]
    unfold findS
    have ih := find_same h r
    have : ∀ K : List NodG, (∀ c ∈ K, c ∈ kids l y) → (dfsR l K).find? (upOk l y (s :: r).reverse) = findL (fun c => if c.name.toList = s.toList then (if r.isEmpty = true then some c else findS l r c.id) else none) K := fun K => by
      induction K with
      | nil => intro _; rfl
      | cons c K ihK =>
        intro hK
        have hm := kids_mem.1 (hK c (by simp))
        have ihK := ihK (fun d hd => hK d (by simp [hd]))
        rw [dfsR_cons, List.find?_cons, List.find?_append, ihK, findL_cons]
        cases r with
        | nil =>
          have h1 : (dfs l c.id).find? (upOk l y [s].reverse) = none := find_none (fun n hn => by
            have := not_up h hm.1 hn
            rw [hm.2] at this
            simp [upOk, this])
          rw [h1]
          by_cases e : c.name.toList = s.toList
          · simp [upOk, e, hm.2]
          · simp [upOk, e]
        | cons r0 r1 =>
          have hc : upOk l y (s :: r0 :: r1).reverse c = false := by
            obtain ⟨a, b, hab⟩ : ∃ a b, (r0 :: r1).reverse = a :: b := by
              cases hr : (r0 :: r1).reverse with
              | nil => simp at hr
              | cons a b => exact ⟨a, b, rfl⟩
            rw [List.reverse_cons, hab]
            cases b <;> simp [upOk, hm.2]
          rw [hc]
          have hP : (dfs l c.id).find? (upOk l y (s :: r0 :: r1).reverse) = (dfs l c.id).find? (fun n => upOk l c.id (r0 :: r1).reverse n && decide (c.name.toList = s.toList)) := find_congr (fun n hn => by
            rw [List.reverse_cons, ← hm.2]
            exact up_more h hm.1 s _ (by simp) n hn)
          rw [hP]
          by_cases e : c.name.toList = s.toList
          · have h2 : (dfs l c.id).find? (fun n => upOk l c.id (r0 :: r1).reverse n && decide (c.name.toList = s.toList)) = findS l (r0 :: r1) c.id := by
              rw [← ih c.id]
              exact find_congr (fun n hn => by simp [e])
            rw [h2, if_pos e]
            rfl
          · rw [find_none (fun n hn => by simp [e]), if_neg e]
    exact this _ (fun c hc => hc)
end Go.Proofs.YtmidembbanlleafDoor.OpR
