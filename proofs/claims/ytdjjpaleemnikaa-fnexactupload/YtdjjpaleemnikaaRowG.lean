/- Rows of structs of whatever number of cells: what lies in them, and what stores make of them. -/
import Derived.Test.YtdjjpaleemnikaaTrM
namespace Go.Proofs.Ytdjjpaleemnikaa.OpR
open Go.ChangeShapes Go.WideShapes Go.ChangeAt Go.RowKit
set_option linter.unusedVariables false

section
variable {α : Type} {cs : α → List Value} {c : Nat}
def flatG (cs : α → List Value) (l : List α) : List Value := l.flatMap cs
theorem flatG_cons (x : α) (l : List α) : flatG cs (x :: l) = cs x ++ flatG cs l := by simp [flatG]
theorem flatG_app (a b : List α) : flatG cs (a ++ b) = flatG cs a ++ flatG cs b := by simp [flatG]
theorem flatG_len (hc : ∀ x, (cs x).length = c) (l : List α) : (flatG cs l).length = l.length * c := by
  induction l with
  | nil => simp [flatG]
  | cons o l ih => rw [flatG_cons, List.length_append, ih, hc, List.length_cons, Nat.succ_mul]; omega
theorem flatG_get (hc : ∀ x, (cs x).length = c) : ∀ (l : List α) (k f : Nat) (hk : k < l.length), f < c → (flatG cs l)[k * c + f]? = (cs l[k])[f]?
  | o :: l, 0, f, hk, hf => by
    rw [flatG_cons, Nat.zero_mul, Nat.zero_add, List.getElem?_append_left (by rw [hc]; exact hf)]; rfl
  | o :: l, k + 1, f, hk, hf => by
    rw [flatG_cons, List.getElem?_append_right (by rw [hc, Nat.succ_mul]; omega), hc, show (k + 1) * c + f - c = k * c + f by rw [Nat.succ_mul]; omega]
    exact flatG_get hc l k f (by simpa using hk) hf
theorem flatG_up (hc : ∀ x, (cs x).length = c) (x : α) (l : List α) (k f : Nat) (v : Value) : (cs x ++ l.flatMap cs).set ((k + 1) * c + f) v = cs x ++ (l.flatMap cs).set (k * c + f) v := by
  rw [List.set_append_right _ _ (by rw [hc, Nat.succ_mul]; omega), hc, show (k + 1) * c + f - c = k * c + f by rw [Nat.succ_mul]; omega]
theorem flatG_up' (hc : ∀ x, (cs x).length = c) (x : α) (r : List Value) (k f : Nat) (v : Value) : (cs x ++ r).set ((k + 1) * c + f) v = cs x ++ r.set (k * c + f) v := by
  rw [List.set_append_right _ _ (by rw [hc, Nat.succ_mul]; omega), hc, show (k + 1) * c + f - c = k * c + f by rw [Nat.succ_mul]; omega]
/-- The stores of an element's cells are the store of the element. -/
def setsG (r : List Value) (p : Nat) : List Value → List Value
  | [] => r
  | v :: vs => setsG (r.set p v) (p + 1) vs
theorem setsG_up (hc : ∀ x, (cs x).length = c) (x : α) (k : Nat) : ∀ (vs : List Value) (r : List Value) (f : Nat), setsG (cs x ++ r) ((k + 1) * c + f) vs = cs x ++ setsG r (k * c + f) vs
  | [], _, _ => rfl
  | v :: vs, r, f => by
    unfold setsG
    rw [flatG_up' hc, Nat.add_assoc, Nat.add_assoc, setsG_up hc x k vs]
theorem setsG_front : ∀ (vs us r : List Value) (pre : List Value), vs.length = us.length → setsG (pre ++ us ++ r) pre.length vs = pre ++ vs ++ r
  | [], [], r, pre, _ => rfl
  | v :: vs, u :: us, r, pre, h => by
    unfold setsG
    have e : (pre ++ u :: us ++ r).set pre.length v = (pre ++ [v]) ++ us ++ r := by
      rw [List.append_assoc, List.set_append_right _ _ (Nat.le_refl _), Nat.sub_self]
      simp
    rw [e]
    have := setsG_front vs us r (pre ++ [v]) (by simpa using h)
    rw [List.length_append] at this
    simpa using this
theorem flatG_set (hc : ∀ x, (cs x).length = c) : ∀ (l : List α) (k : Nat) (o : α), k < l.length → setsG (flatG cs l) (k * c) (cs o) = flatG cs (l.set k o)
  | x :: l, 0, o, hk => by
    rw [flatG_cons, List.set_cons_zero, flatG_cons, Nat.zero_mul]
    simpa using setsG_front (cs o) (cs x) (flatG cs l) [] (by rw [hc, hc])
  | x :: l, k + 1, o, hk => by
    rw [flatG_cons, List.set_cons_succ, flatG_cons, ← flatG_set hc l k o (by simpa using hk)]
    simpa using setsG_up hc x k (cs o) (flatG cs l) 0
/-- A block that holds just these, none frozen. -/
def InG (cs : α → List Value) (w : World) (g : Nat) (T : TypeId) (l : List α) : Prop := w.heap[g]? = some (.cells (flatG cs l).toArray T (0, 0))
variable {w w' : World} {g : Nat} {T : TypeId} {l : List α}
theorem InG.lt (h : InG cs w g T l) : g < w.heap.size := (Array.getElem?_eq_some_iff.1 h).1
theorem InG.cell (hc : ∀ x, (cs x).length = c) (h : InG cs w g T l) {k f : Nat} (hk : k < l.length) (hf : f < c) {v : Value} (hv : (cs l[k])[f]? = some v) : w.cell? ⟨g, k * c + f, none⟩ = some v := by
  have e := flatG_get hc l k f hk hf
  rw [hv] at e
  unfold InG at h
  simp [World.cell?, h, e]
theorem InG.frozen (h : InG cs w g T l) (p : Nat) : w.frozen? ⟨g, p, none⟩ = false := by
  unfold InG at h
  simp [World.frozen?, h]
theorem InG.block (h : InG cs w g T l) (e : w'.heap[g]? = w.heap[g]?) : InG cs w' g T l := e.trans h
theorem InG.stays (h : InG cs w g T l) (hb : Below w.heap.size w w') : InG cs w' g T l := h.block (hb.block g h.lt)
/-- It is a row that the call owns. -/
theorem InG.owns (hc : ∀ x, (cs x).length = c) (h : InG cs w g T l) {base : Nat} (hb : base ≤ g) (hm : l.length ≤ maxLen) : w.ownsRow base T c (.slice (some ⟨g, 0, none⟩) l.length l.length) l.length (flatG cs l) :=
  ⟨flatG_len hc l, .inr ⟨g, l.length, _, rfl, hb, h, Nat.le_refl _, hm, by simp [flatG_len hc], by rw [← flatG_len hc l]; simp⟩⟩
end
/-- A store into a block of cells. -/
def putsG (w : World) (g p : Nat) : List Value → World
  | [] => w
  | v :: vs => putsG (w.setCell ⟨g, p, none⟩ v) g (p + 1) vs
theorem puts_block {w : World} {g : Nat} {T : TypeId} : ∀ (vs : List Value) (r : List Value) (p : Nat) (w : World), w.heap[g]? = some (.cells r.toArray T (0, 0)) → (putsG w g p vs).heap[g]? = some (.cells (setsG r p vs).toArray T (0, 0))
  | [], _, _, _, h => h
  | v :: vs, r, p, w, h => by
    unfold putsG setsG
    refine puts_block (w := w) vs _ _ _ ?_
    have := set_block h p v
    rwa [List.setIfInBounds_toArray] at this
theorem puts_other {g b : Nat} (hne : b ≠ g) : ∀ (vs : List Value) (p : Nat) (w : World), (putsG w g p vs).heap[b]? = w.heap[b]?
  | [], _, _ => rfl
  | v :: vs, p, w => by
    unfold putsG
    rw [puts_other hne vs]
    exact Below.heap_setCell _ _ _ _ hne
theorem puts_below {B g : Nat} {a : World} (hg : B ≤ g) : ∀ (vs : List Value) (p : Nat) (w : World), Below B a w → Below B a (putsG w g p vs)
  | [], _, _, h => h
  | v :: vs, p, w, h => puts_below hg vs (p + 1) _ (h.setCell hg v)
theorem InG.store {α : Type} {cs : α → List Value} {c : Nat} {w : World} {g : Nat} {T : TypeId} {l : List α} (hc : ∀ x, (cs x).length = c) (h : InG cs w g T l) {k : Nat} (hk : k < l.length) (o : α) : InG cs (putsG w g (k * c) (cs o)) g T (l.set k o) := by
  have := puts_block (w := w) (cs o) _ (k * c) w h
  rw [flatG_set hc l k o hk] at this
  exact this

/-! ### props: two cells; nodes: four -/
theorem prop_len (p : PropV) : p.cells.length = 2 := rfl
theorem nod_len (n : NodG) : n.cells.length = 4 := rfl
def PropV.zero : PropV := ⟨⟨#[]⟩, ⟨#[]⟩⟩
def NodG.none0 : NodG := ⟨0, 0, ⟨#[]⟩, [], none, 0⟩
theorem made_cells {α : Type} {cs : α → List Value} {c : Nat} (hc : ∀ x, (cs x).length = c) (h0 : 0 < c) (z : α) (n : Nat) : madeCells (cs z).toArray (n * c) = (flatG cs (List.replicate n z)).toArray := by
  apply Array.ext_getElem?
  intro p
  by_cases hp : p < n * c
  · obtain ⟨k, f, rfl, hf⟩ : ∃ k f, p = k * c + f ∧ f < c := ⟨p / c, p % c, by rw [Nat.mul_comm]; exact (Nat.div_add_mod p c).symm, Nat.mod_lt _ h0⟩
    have hk : k < n := by
      refine Classical.byContradiction fun hn => ?_
      have : n * c ≤ k * c := Nat.mul_le_mul_right c (Nat.le_of_not_lt hn)
      omega
    have er : (flatG cs (List.replicate n z)).toArray[k * c + f]? = (cs z)[f]? := by
      rw [List.getElem?_toArray, flatG_get hc _ k f (by simpa using hk) hf, List.getElem_replicate]
    rw [er]
    simp only [madeCells, Array.getElem?_map]
    rw [Array.getElem?_eq_getElem (by simpa using hp)]
    simp only [Option.map_some, Array.getElem_range]
    have e : (k * c + f) % (cs z).toArray.size = f := by
      rw [List.size_toArray, hc, Nat.mul_comm, Nat.mul_add_mod]
      exact Nat.mod_eq_of_lt hf
    rw [e, List.getElem?_eq_getElem (by rw [hc]; exact hf)]
    congr 1
    rw [getElem!_pos _ _ (by simpa [hc] using hf)]
    simp
  · rw [Array.getElem?_eq_none (by rw [size_madeCells]; omega), Array.getElem?_eq_none (by simp [flatG_len hc]; omega)]
theorem InG.propAt {w : World} {g : Nat} {T : TypeId} {l : List PropV} (h : InG PropV.cells w g T l) {k : Nat} (hk : k < l.length) : PropAt w g (k * 2) l[k] :=
  ⟨h.cell prop_len hk (f := 0) (by omega) rfl, h.cell prop_len hk (f := 1) (by omega) rfl⟩
theorem InG.nodAt {w : World} {g : Nat} {T : TypeId} {l : List NodG} (h : InG NodG.cells w g T l) {k : Nat} (hk : k < l.length) : NodAt w g (k * 4) l[k] :=
  ⟨h.cell nod_len hk (f := 0) (by omega) rfl, h.cell nod_len hk (f := 1) (by omega) rfl, h.cell nod_len hk (f := 2) (by omega) rfl, h.cell nod_len hk (f := 3) (by omega) rfl⟩
theorem InG.propsAt {w : World} {g : Nat} {T : TypeId} {l : List PropV} (h : InG PropV.cells w g T l) : PropsAt w (some ⟨g, 0, none⟩) l := fun j hj =>
  ⟨g, 0, rfl, h.lt, by rw [Nat.zero_add]; exact h.propAt hj⟩
/-- The first k of l, the rest z. -/
def partG {α : Type} (z : α) (l : List α) (n : Nat) : List α := l ++ List.replicate (n - l.length) z
theorem partG_len {α : Type} (z : α) (l : List α) (n : Nat) (h : l.length ≤ n) : (partG z l n).length = n := by simp [partG]; omega
theorem partG_set {α : Type} (z : α) (l : List α) (n : Nat) (x : α) (h : l.length < n) : (partG z l n).set l.length x = partG z (l ++ [x]) n := by
  unfold partG
  rw [List.set_append_right _ _ (Nat.le_refl _), Nat.sub_self, show n - l.length = (n - (l ++ [x]).length) + 1 by simp; omega, List.replicate_succ, List.set_cons_zero]
  simp
theorem partG_all {α : Type} (z : α) (l : List α) : partG z l l.length = l := by simp [partG]
theorem partG_nil {α : Type} (z : α) (n : Nat) : partG z [] n = List.replicate n z := by simp [partG]
end Go.Proofs.Ytdjjpaleemnikaa.OpR
