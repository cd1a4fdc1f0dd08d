/- A row of ops in which ops are stored, and where it stands when its first ops have been looked at. -/
import Derived.Test.YtfkgmkcndchkjaaGreatDoorSortM
import Derived.Test.YtfkgmkcndchkjaaGreatDoorIOp
import Derived.Test.YtfkgmkcndchkjaaGreatDoorRowO
import Derived.Test.YtfkgmkcndchkjaaGreatDoorMarkS
import Derived.Test.YtfkgmkcndchkjaaGreatDoorNeqOp
namespace Go.Proofs.YtfkgmkcndchkjaaGreatDoor.OpR
open Go.ChangeShapes Go.WideShapes Go.ChangeAt Go.RowKit
set_option linter.unusedVariables false

/-- A world behind calls, in which a variable that holds an op still lies at g. -/
structure VarO (B : Nat) (w c : World) (g : Nat) (T : TypeId) (o : OpV) : Prop where
  below : Below B w c
  lies : c.heap[g]? = some (.cells #[.int .i64 o.time, .int .i64 o.repl, .int .i64 o.kind, .int .i64 o.node, .int .i64 o.parent, .string o.name, .string o.value] T (0, 0))
theorem VarO.step {B : Nat} {w c c' : World} {g : Nat} {T : TypeId} {o : OpV} (h : VarO B w c g T o) (hb : Below c.heap.size c c') (hB : B ≤ c.heap.size) : VarO B w c' g T o :=
  ⟨h.below.trans (hb.mono hB), (hb.block _ (Array.getElem?_eq_some_iff.1 h.lies).1).trans h.lies⟩
theorem VarO.cells {B : Nat} {w c : World} {g : Nat} {T : TypeId} {o : OpV} (h : VarO B w c g T o) : c.cell? ⟨g, 0, none⟩ = some (.int .i64 o.time) ∧ c.cell? ⟨g, 1, none⟩ = some (.int .i64 o.repl) ∧ c.cell? ⟨g, 2, none⟩ = some (.int .i64 o.kind) ∧ c.cell? ⟨g, 3, none⟩ = some (.int .i64 o.node) ∧ c.cell? ⟨g, 4, none⟩ = some (.int .i64 o.parent) ∧ c.cell? ⟨g, 5, none⟩ = some (.string o.name) ∧ c.cell? ⟨g, 6, none⟩ = some (.string o.value) := by
  have e := h.lies
  refine ⟨?_, ?_, ?_, ?_, ?_, ?_, ?_⟩ <;> simp [World.cell?, e]
/-- The store of an op. -/
def seven (w : World) (g p : Nat) (o : OpV) : World := ((((((w.setCell ⟨g, p, none⟩ (.int .i64 o.time)).setCell ⟨g, p + 1, none⟩ (.int .i64 o.repl)).setCell ⟨g, p + 2, none⟩ (.int .i64 o.kind)).setCell ⟨g, p + 3, none⟩ (.int .i64 o.node)).setCell ⟨g, p + 4, none⟩ (.int .i64 o.parent)).setCell ⟨g, p + 5, none⟩ (.string o.name)).setCell ⟨g, p + 6, none⟩ (.string o.value)
theorem seven_row {w : World} {g p N : Nat} {T : TypeId} {o : OpV} (h : RowB w g T N) : RowB (seven w g p o) g T N := ((((((h.set _ _).set _ _).set _ _).set _ _).set _ _).set _ _).set _ _
theorem seven_grown {w : World} {g p : Nat} {o : OpV} : w.grownBy (seven w g p o) (some g) :=
  grown_trans (grown_trans (grown_trans (grown_trans (grown_trans (grown_trans (grown_set _ _ _ _) (grown_set _ _ _ _)) (grown_set _ _ _ _)) (grown_set _ _ _ _)) (grown_set _ _ _ _)) (grown_set _ _ _ _)) (grown_set _ _ _ _)
theorem seven_at {w : World} {g p N : Nat} {T : TypeId} {o : OpV} (h : RowB w g T N) (hp : p + 7 ≤ N) : OpAt (seven w g p o) g p o := by
  unfold seven
  refine ⟨?_, ?_, ?_, ?_, ?_, ?_, ?_⟩
  · rw [setc_other (by omega), setc_other (by omega), setc_other (by omega), setc_other (by omega), setc_other (by omega), setc_other (by omega), setc_same h (by omega)]
  · rw [setc_other (by omega), setc_other (by omega), setc_other (by omega), setc_other (by omega), setc_other (by omega), setc_same (h.set _ _) (by omega)]
  · rw [setc_other (by omega), setc_other (by omega), setc_other (by omega), setc_other (by omega), setc_same ((h.set _ _).set _ _) (by omega)]
  · rw [setc_other (by omega), setc_other (by omega), setc_other (by omega), setc_same (((h.set _ _).set _ _).set _ _) (by omega)]
  · rw [setc_other (by omega), setc_other (by omega), setc_same ((((h.set _ _).set _ _).set _ _).set _ _) (by omega)]
  · rw [setc_other (by omega), setc_same (((((h.set _ _).set _ _).set _ _).set _ _).set _ _) (by omega)]
  · rw [setc_same ((((((h.set _ _).set _ _).set _ _).set _ _).set _ _).set _ _) (by omega)]
theorem seven_other {w : World} {g p q : Nat} {o x : OpV} (h : OpAt w g q x) (hn : q + 7 ≤ p ∨ p + 7 ≤ q) : OpAt (seven w g p o) g q x :=
  ((((((h.other (by omega)).other (by omega)).other (by omega)).other (by omega)).other (by omega)).other (by omega)).other (by omega)
theorem seven_ops {w : World} {g k N : Nat} {T : TypeId} {o : OpV} {cur : List OpV} (h : OpsAt w (some ⟨g, 0, none⟩) cur) (hR : RowB w g T N) (hN : k * 7 + 7 ≤ N) : OpsAt (seven w g (k * 7) o) (some ⟨g, 0, none⟩) (cur.set k o) := fun j hj => by
  rw [List.length_set] at hj
  refine ⟨g, 0, rfl, (seven_row hR).lt, ?_⟩
  rw [Nat.zero_add]
  by_cases e : j = k
  · subst e
    rw [List.getElem_set_self]
    exact seven_at hR hN
  · rw [List.getElem_set_ne (fun e' => e e'.symm)]
    exact seven_other (h.at0 hj) (by omega)
/-- Where a row stands when its first ops have been looked at. -/
structure Look (w wr : World) (g cap i : Nat) (m K cur : List OpV) : Prop where
  ile : i ≤ m.length
  kle : K.length ≤ i
  len : cur.length = m.length
  take : cur.take K.length = K
  drop : cur.drop i = m.drop i
  lies : OpsAt wr (some ⟨g, 0, none⟩) cur
  row : RowB wr g 30 (cap * 7)
  same : once K (m.drop i) = once [] m
  grown : w.grownBy wr (some g)
theorem Look.cur_at {w wr : World} {g cap i : Nat} {m K cur : List OpV} (h : Look w wr g cap i m K cur) (hi : i < m.length) : ∃ hc : i < cur.length, cur[i] = m[i] := by
  have hc : i < cur.length := by rw [h.len]; exact hi
  refine ⟨hc, ?_⟩
  have e := h.drop
  rw [List.drop_eq_getElem_cons hc, List.drop_eq_getElem_cons hi] at e
  injection e
theorem Look.last {w wr : World} {g cap i n : Nat} {m K cur : List OpV} (h : Look w wr g cap i m K cur) (hn : K.length = n + 1) : ∃ hc : n < cur.length, K.getLast? = some cur[n] := by
  have hc : n < cur.length := by have := h.ile; have := h.kle; have := h.len; omega
  refine ⟨hc, ?_⟩
  have e : K = cur.take (n + 1) := by rw [← hn]; exact h.take.symm
  rw [e, List.getLast?_eq_getElem?, List.length_take, Nat.min_eq_left (by omega), Nat.add_sub_cancel, List.getElem?_take_of_lt (by omega), List.getElem?_eq_getElem hc]
theorem Look.skip {w wr wr' : World} {g cap i : Nat} {m K cur : List OpV} (h : Look w wr g cap i m K cur) (hi : i < m.length) (hb : Below wr.heap.size wr wr') (hs : once K (m.drop i) = once K (m.drop (i + 1))) : Look w wr' g cap (i + 1) m K cur :=
  ⟨by omega, by have := h.kle; omega, h.len, h.take, by rw [← List.drop_drop, h.drop, List.drop_drop], h.lies.stays hb, h.row.below hb, hs.symm.trans h.same, grown_trans h.grown (mk_below hb)⟩
theorem Look.keep {w wr wr' : World} {g cap i : Nat} {m K cur : List OpV} (h : Look w wr g cap i m K cur) (hi : i < m.length) (hcap : m.length ≤ cap) (hb : Below wr.heap.size wr wr') (hs : once K (m.drop i) = once (K ++ [m[i]]) (m.drop (i + 1))) : Look w (seven wr' g (K.length * 7) m[i]) g cap (i + 1) m (K ++ [m[i]]) (cur.set K.length m[i]) := by
  have hkl := h.kle
  have hlen := h.len
  refine ⟨by omega, by simp; omega, by rw [List.length_set]; exact h.len, ?_, ?_, seven_ops (h.lies.stays hb) (h.row.below hb) (by omega), seven_row (h.row.below hb), hs.symm.trans h.same, grown_trans (grown_trans h.grown (mk_below hb)) seven_grown⟩
  · rw [List.length_append, List.length_singleton, List.take_add_one, List.getElem?_set_self (by omega), List.take_set_of_le (Nat.le_refl _), h.take]
    rfl
  · rw [List.drop_set_of_lt (by omega), ← List.drop_drop, h.drop, List.drop_drop]

end Go.Proofs.YtfkgmkcndchkjaaGreatDoor.OpR
