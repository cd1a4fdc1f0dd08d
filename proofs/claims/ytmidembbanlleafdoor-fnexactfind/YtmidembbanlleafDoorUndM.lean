/- How many lie below a number: those of its children, each with what lies below it. Plain mathematics. -/
import Derived.Test.YtmidembbanlleafDoorKidM
import Derived.Test.YtmidembbanlleafDoorSpV
namespace Go.Proofs.YtmidembbanlleafDoor.OpR
open Go.ChangeShapes Go.WideShapes Go.ChangeAt Go.RowKit
set_option linter.unusedVariables false

/-- Is y come to, from x up? -/
def abL (l : List NodG) (y x : Int) : Bool := abF (par l) y (l.length + 1) x
def sbL (l : List NodG) (y : Int) (n : NodG) : Bool := decide (n.id ≠ y) && abL l y n.id
/-- How many lie below a number. -/
def undN (l : List NodG) (y : Int) : Nat := l.countP (sbL l y)
def undB (l : List NodG) (y : Int) : Nat := if treeRight l = true ∧ placeB l y = true then undN l y else 0
theorem undN_le (l : List NodG) (y : Int) : undN l y ≤ l.length := List.countP_le_length

theorem ends_l {l : List NodG} (h : TreeR l) {x : Int} (hx : placeB l x = true) : endsF (par l) (l.length + 1) x = true := by
  by_cases h01 : x = 0 ∨ x = 1
  · exact ends_low h01
  · cases hn : nodOf l x with
    | none =>
      have h2 : ¬ x = 0 := fun e => h01 (.inl e)
      have h3 : ¬ x = 1 := fun e => h01 (.inr e)
      simp [placeB, hn, h2, h3] at hx
    | some n => exact tree_ends h hn
theorem par_mem {l : List NodG} (h : TreeR l) {n : NodG} (hn : n ∈ l) : par l n.id = some n.parent := by
  unfold par
  rw [nodOf_mem h.2.1 hn]
  rfl
theorem id_high {l : List NodG} (h : TreeR l) {n : NodG} (hn : n ∈ l) : n.id ≠ 0 ∧ n.id ≠ 1 := by
  have hp := tree_par h
  have e := par_mem h hn
  constructor
  · intro e0; rw [e0, hp.1] at e; cases e
  · intro e0; rw [e0, hp.2] at e; cases e
/-- A node's parent ends within fewer steps. -/
theorem ends_par {l : List NodG} (h : TreeR l) {n : NodG} (hn : n ∈ l) : endsF (par l) l.length n.parent = true := by
  have he := tree_ends h (nodOf_mem h.2.1 hn)
  have hh := id_high h hn
  rwa [ends_step hh.1 hh.2 (par_mem h hn)] at he
theorem ab_step {l : List NodG} (h : TreeR l) {n : NodG} (hn : n ∈ l) (y : Int) : abL l y n.id = (decide (n.id = y) || abL l y n.parent) := by
  have hp := tree_par h
  unfold abL
  rw [ab_stable hp.1 hp.2 y (ends_par h hn)]
  show (if n.id = y then true else match par l n.id with | none => false | some z => abF (par l) y l.length z) = _
  rw [par_mem h hn]
  by_cases e : n.id = y <;> simp [e]
theorem ab_low {l : List NodG} (h : TreeR l) {x : Int} (hx : x = 0 ∨ x = 1) (y : Int) : abL l y x = decide (x = y) := by
  have hp := tree_par h
  have hn : par l x = none := by rcases hx with rfl | rfl <;> simp [hp.1, hp.2]
  show (if x = y then true else match par l x with | none => false | some z => abF (par l) y l.length z) = _
  rw [hn]
  by_cases e : x = y <;> simp [e]
theorem ab_self (l : List NodG) (y : Int) : abL l y y = true := by
  show (if y = y then true else _) = true
  simp
/-- No child is come to from its parent up. -/
theorem no_ring {l : List NodG} (h : TreeR l) {c : NodG} (hc : c ∈ l) : abL l c.id c.parent = false := by
  cases e : abL l c.id c.parent with
  | false => rfl
  | true =>
    exfalso
    have hp := tree_par h
    obtain ⟨j, _, hj, hmin⟩ := ends_least (ends_par h hc)
    obtain ⟨i, hi, hei⟩ := ends_meets hp.1 hp.2 e j hj
    have hh := id_high h hc
    obtain ⟨k, rfl, hk⟩ := ends_cases hei
    rcases hk with hk | ⟨_, _, z, hz, hkz⟩
    · rcases hk with hk | hk
      · exact hh.1 hk
      · exact hh.2 hk
    · rw [par_mem h hc] at hz
      cases hz
      rw [hmin k (by omega)] at hkz
      cases hkz
/-- How many of the children of y are come to from x up. -/
def sumB (K : List NodG) (q : NodG → Bool) : Nat := (K.map fun c => if q c = true then 1 else 0).sum
theorem sumB_zero {K : List NodG} {q : NodG → Bool} (h : ∀ c ∈ K, q c = false) : sumB K q = 0 := by
  induction K with
  | nil => rfl
  | cons c K ih =>
    show (if q c = true then 1 else 0) + sumB K q = 0
    rw [h c (by simp), ih (fun d hd => h d (by simp [hd]))]
    simp
theorem sumB_same {K : List NodG} {q r : NodG → Bool} (h : ∀ c ∈ K, q c = r c) : sumB K q = sumB K r := by
  induction K with
  | nil => rfl
  | cons c K ih =>
    show (if q c = true then 1 else 0) + sumB K q = (if r c = true then 1 else 0) + sumB K r
    rw [h c (by simp), ih (fun d hd => h d (by simp [hd]))]
theorem sumB_one {K : List NodG} {q : NodG → Bool} {n : NodG} (hn : n ∈ K) (hd : K.Pairwise fun a b => a.id ≠ b.id) (h1 : q n = true) (h : ∀ c ∈ K, c.id ≠ n.id → q c = false) : sumB K q = 1 := by
  induction K with
  | nil => cases hn
  | cons c K ih =>
    have hc := List.pairwise_cons.1 hd
    show (if q c = true then 1 else 0) + sumB K q = 1
    rcases List.mem_cons.1 hn with rfl | hn
    · rw [h1, sumB_zero (fun d hd2 => h d (by simp [hd2]) (fun e => hc.1 d hd2 e.symm))]
      simp
    · rw [h c (by simp) (hc.1 n hn), ih hn hc.2 (fun d hd2 => h d (by simp [hd2]))]
      simp
theorem kids_diff {l : List NodG} (h : TreeR l) (y : Int) : (kids l y).Pairwise fun a b => a.id ≠ b.id := by
  have hk : (kids l y).Perm (kidsOf y l) := kidsTo_perm y [] l
  refine (hk.pairwise_iff (fun {a b} (h : a.id ≠ b.id) => Ne.symm h)).2 ?_
  exact (List.Pairwise.filter _ (rises_pair h.2.1)).imp (fun h => Int.ne_of_lt h)
theorem id_same {l : List NodG} (h : TreeR l) {a b : NodG} (ha : a ∈ l) (hb : b ∈ l) (e : a.id = b.id) : a = b := by
  have h1 := nodOf_mem h.2.1 ha
  rw [e, nodOf_mem h.2.1 hb] at h1
  cases h1
  rfl
theorem kids_meet {l : List NodG} (h : TreeR l) (y : Int) : ∀ {k : Nat} {x : Int}, endsF (par l) k x = true → sumB (kids l y) (fun c => abL l c.id x) = if decide (x ≠ y) && abL l y x then 1 else 0 := by
  intro k
  induction k with
  | zero => intro x hx; simp [endsF] at hx
  | succ k ih =>
    intro x hx
    obtain ⟨j, e, hc⟩ := ends_cases hx
    obtain rfl := Nat.succ.inj e
    rcases hc with hlow | ⟨hx0, hx1, p, hp, hk⟩
    · rw [sumB_zero (fun c hc => by
        rw [ab_low h hlow]
        have := id_high h (kids_mem.1 hc).1
        rcases hlow with rfl | rfl
        · simpa using fun e => this.1 e.symm
        · simpa using fun e => this.2 e.symm), ab_low h hlow]
      by_cases e : x = y <;> simp [e]
    · obtain ⟨n, hn, rfl⟩ := Option.map_eq_some_iff.1 hp
      obtain ⟨hnl, rfl⟩ := nodOf_some hn
      by_cases hpy : n.parent = y
      · rw [sumB_one (kids_mem.2 ⟨hnl, hpy⟩) (kids_diff h y) (ab_self l n.id) (fun c hc hne => by
          have hm := kids_mem.1 hc
          rw [ab_step h hnl, hpy, ← hm.2, no_ring h hm.1]
          simpa using fun e => hne e.symm)]
        have h1 : n.id ≠ y := fun e => by
          have := no_ring h hnl
          rw [hpy, e, ab_self] at this
          cases this
        rw [ab_step h hnl, hpy, ab_self]
        simp [h1]
      · by_cases hxy : n.id = y
        · rw [sumB_zero (fun c hc => by
            have hm := kids_mem.1 hc
            have := no_ring h hm.1
            rw [hm.2, ← hxy] at this
            exact this)]
          simp [hxy]
        · rw [sumB_same (r := fun c => abL l c.id n.parent) (fun c hc => by
            have hm := kids_mem.1 hc
            have : ¬ n.id = c.id := fun e => hpy (by rw [id_same h hnl hm.1 e]; exact hm.2)
            rw [ab_step h hnl]
            simp [this]), ih hk, ab_step h hnl]
          simp [hxy, hpy]
theorem sum_add (K : List NodG) (f g : NodG → Nat) : (K.map fun c => f c + g c).sum = (K.map f).sum + (K.map g).sum := by
  induction K with
  | nil => rfl
  | cons c K ih => simp only [List.map_cons, List.sum_cons, ih]; omega
theorem sum_zero (K : List NodG) : (K.map fun _ => 0).sum = 0 := by
  induction K with
  | nil => rfl
  | cons c K ih => simp only [List.map_cons, List.sum_cons, ih]
theorem count_sum (K : List NodG) (q : NodG → NodG → Bool) (p : NodG → Bool) : ∀ (l : List NodG), (∀ n ∈ l, sumB K (fun c => q c n) = if p n = true then 1 else 0) → l.countP p = (K.map fun c => l.countP (q c)).sum
  | [], _ => by simp [sum_zero]
  | n :: r, h => by
    have ih := count_sum K q p r (fun m hm => h m (by simp [hm]))
    have h1 := h n (by simp)
    rw [List.countP_cons, ih, ← h1]
    have : (K.map fun c => (n :: r).countP (q c)) = K.map fun c => r.countP (q c) + if q c n = true then 1 else 0 := List.map_congr_left (fun c _ => List.countP_cons)
    rw [this, sum_add]
    rfl
theorem count_split (l : List NodG) (p q : NodG → Bool) : l.countP p = l.countP (fun n => p n && q n) + l.countP (fun n => p n && !q n) := by
  induction l with
  | nil => rfl
  | cons n r ih =>
    simp only [List.countP_cons, ih]
    cases p n <;> cases q n <;> simp <;> omega
theorem count_one {l : List NodG} {c : NodG} (hc : c ∈ l) (hd : l.Pairwise fun a b => a.id < b.id) : l.countP (fun n => decide (n.id = c.id)) = 1 := by
  have h := sumB_one (K := l) (q := fun n => decide (n.id = c.id)) hc (hd.imp (fun h => Int.ne_of_lt h)) (by simp) (fun d _ hne => by simpa using hne)
  rw [← h]
  clear h hd hc
  induction l with
  | nil => rfl
  | cons n r ih =>
    rw [List.countP_cons, ih]
    show _ = (if decide (n.id = c.id) = true then 1 else 0) + sumB r _
    omega
theorem count_ab {l : List NodG} (h : TreeR l) {c : NodG} (hc : c ∈ l) : l.countP (fun n => abL l c.id n.id) = 1 + undN l c.id := by
  rw [count_split l _ (fun n => decide (n.id = c.id))]
  congr 1
  · rw [← count_one hc (rises_pair h.2.1)]
    refine List.countP_congr (fun n hn => ?_)
    by_cases e : n.id = c.id
    · simp [e, ab_self]
    · simp [e]
  · refine List.countP_congr (fun n hn => ?_)
    unfold sbL
    rw [Bool.and_comm]
    by_cases e : n.id = c.id <;> simp [e]
/-- What a row of nodes comes to, each with what lies below it. -/
def wgt (l : List NodG) (K : List NodG) : Nat := (K.map fun c => 1 + undN l c.id).sum
theorem wgt_app (l a b : List NodG) : wgt l (a ++ b) = wgt l a + wgt l b := by simp [wgt]
theorem wgt_cons (l : List NodG) (c : NodG) (b : List NodG) : wgt l (c :: b) = 1 + undN l c.id + wgt l b := by simp [wgt]
theorem wgt_len (l K : List NodG) : K.length ≤ wgt l K := by
  induction K with
  | nil => simp [wgt]
  | cons c K ih => rw [wgt_cons, List.length_cons]; omega
theorem und_kids {l : List NodG} (h : TreeR l) (y : Int) : undN l y = wgt l (kids l y) := by
  unfold undN wgt
  rw [count_sum (kids l y) (fun c n => abL l c.id n.id) (sbL l y) l (fun n hn => kids_meet h y (tree_ends h (nodOf_mem h.2.1 hn)))]
  congr 1
  exact List.map_congr_left (fun c hc => count_ab h (kids_mem.1 hc).1)
theorem und_none {l : List NodG} (h : TreeR l) {y : Int} (hy : placeB l y = false) : undN l y = 0 := by
  unfold undN
  rw [List.countP_eq_zero]
  intro n hn hs
  have hp := tree_par h
  have ha : abL l y n.id = true := by
    unfold sbL at hs
    exact (Bool.and_eq_true _ _ ▸ hs).2
  have := ab_place hp.1 hp.2 (tree_ends h (nodOf_mem h.2.1 hn)) ha
  rcases this with rfl | rfl | ⟨z, hz⟩
  · simp [placeB] at hy
  · simp [placeB] at hy
  · obtain ⟨m, hm, _⟩ := Option.map_eq_some_iff.1 hz
    simp [placeB, hm] at hy
theorem undB_right {l : List NodG} (h : treeRight l = true) (y : Int) : undB l y = undN l y := by
  unfold undB
  cases hy : placeB l y with
  | true => simp [h]
  | false => simp [und_none ((treeR_iff l).1 h) hy]
end Go.Proofs.YtmidembbanlleafDoor.OpR
