/- A row of ops that the call owns: what lies in it, and what slices of it are. -/
import Derived.Test.YtlphcbgeagmopaaOpL
namespace Go.Proofs.Ytlphcbgeagmopaa.OpR
open Go.ChangeShapes Go.WideShapes Go.ChangeAt Go.RowKit
set_option linter.unusedVariables false

theorem flat_one : ∀ (l : List OpV), ∀ u ∈ flat l, u.oneCell' = true := by
  intro l u hu
  obtain ⟨o, _, ho⟩ := List.mem_flatMap.1 hu
  simp only [OpV.cells, List.mem_cons, List.not_mem_nil, or_false] at ho
  rcases ho with rfl | rfl | rfl | rfl | rfl | rfl | rfl <;> rfl
/-- The cells of ops that lie in memory, as one row. -/
theorem OpsAt.cells {w : World} {b off : Nat} {l : List OpV} (h : OpsAt w (some ⟨b, off, none⟩) l) : ∀ j u, (flat l)[j]? = some u → w.cell? ((⟨b, off, none⟩ : Addr).add j) = some u := by
  intro j u hu
  have hj : j < l.length * 7 := by rw [← flat_len]; exact (List.getElem?_eq_some_iff.1 hu).1
  obtain ⟨k, f, rfl, hf⟩ : ∃ k f, j = k * 7 + f ∧ f < 7 := ⟨j / 7, j % 7, by omega, by omega⟩
  have hk : k < l.length := by omega
  rw [flat_get l k f hk hf] at hu
  obtain ⟨b', off', e, _, c0, c1, c2, c3, c4, c5, c6⟩ := h k hk
  cases e
  rw [Addr.add_lit]
  match f, hf with
  | 0, _ => exact c0.trans hu
  | 1, _ => exact c1.trans hu
  | 2, _ => exact c2.trans hu
  | 3, _ => exact c3.trans hu
  | 4, _ => exact c4.trans hu
  | 5, _ => exact c5.trans hu
  | 6, _ => exact c6.trans hu
/-- A row of ops that the call owns, at a place. -/
def OwnAt (w : World) (base : Nat) (T : TypeId) (v : Value) (l : List OpV) : Prop := w.ownsRow base T 7 v l.length (flat l) ∧ v ≠ .slice none 0 0
theorem OwnAt.at {w : World} {base : Nat} {T : TypeId} {v : Value} {l : List OpV} (h : OwnAt w base T v l) : ∃ g cap, v = .slice (some ⟨g, 0, none⟩) l.length cap ∧ base ≤ g ∧ g < w.heap.size ∧ l.length ≤ cap ∧ cap ≤ maxLen ∧ OpsAt w (some ⟨g, 0, none⟩) l := by
  have h0 := h.1
  rcases h.1.2 with ⟨e, _⟩ | ⟨g, cap, cur, rfl, hb, hg, hl, hm, hs, ht⟩
  · exact absurd e h.2
  · have hlt := (Array.getElem?_eq_some_iff.1 hg).1
    refine ⟨g, cap, rfl, hb, hlt, hl, hm, fun j hj => ⟨g, 0, rfl, hlt, ?_⟩⟩
    have hc := fun f (hf : f < 7) (u : Value) (hu : l[j].cells[f]? = some u) => h0.cells rfl (j * 7 + f) u ((flat_get l j f hj hf).trans hu)
    simp only [Addr.add_lit] at hc
    exact ⟨hc 0 (by omega) _ rfl, hc 1 (by omega) _ rfl, hc 2 (by omega) _ rfl, hc 3 (by omega) _ rfl, hc 4 (by omega) _ rfl, hc 5 (by omega) _ rfl, hc 6 (by omega) _ rfl⟩
theorem OwnAt.below {w w' : World} {base : Nat} {T : TypeId} {v : Value} {l : List OpV} (h : OwnAt w base T v l) (hb : Below w.heap.size w w') : OwnAt w' base T v l :=
  ⟨h.1.kept (row := none) ⟨hb.os, hb.tape, hb.output, hb.size, fun k hk _ => hb.block k hk⟩ (by cases hv : v.ownBlock <;> simp), h.2⟩

theorem OpsAt.at0 {w : World} {g : Nat} {l : List OpV} (h : OpsAt w (some ⟨g, 0, none⟩) l) {k : Nat} (hk : k < l.length) : OpAt w g (k * 7) l[k] := by
  obtain ⟨b, off, e, _, ho⟩ := h k hk
  cases e
  rwa [Nat.zero_add] at ho
theorem OpsAt.atk {w : World} {b off : Nat} {l : List OpV} (h : OpsAt w (some ⟨b, off, none⟩) l) {k : Nat} (hk : k < l.length) : OpAt w b (off + k * 7) l[k] := by
  obtain ⟨b', off', e, _, ho⟩ := h k hk
  cases e
  exact ho

def lowOff (cap k : Nat) : Nat := if cap = k then 0 else k * 7
theorem slice_low (W : World) (g len cap k : Nat) (h : k ≤ len) (hc : len ≤ cap) :
    (Instr.slice 23 (.slice (some ⟨g, 0, none⟩) len cap) (some (.int .i64 (k : Int))) none none).run Try.prog W = .ok (.slice (some ⟨g, lowOff cap k, none⟩) (len - k) (cap - k)) W := by
  have ht : Try.prog.underlying 23 = some (.slice (Try.prog.elem 23)) := by kernel_rfl
  have hs : ∀ w, (sizeOf (Try.prog.elem 23)).run Try.prog w = .ok 7 w := fun _ => by kernel_rfl
  rw [run_slice_l W 23 (some ⟨g, 0, none⟩) len cap ht .i64 (k : Int) (by omega) (by omega), hs]
  simp only [Result.andThen, sliced, Int.toNat_natCast]
  unfold lowOff
  by_cases e : cap = k
  · simp [e]
  · simp [e, Addr.add]
    intro h0; omega
theorem slice_high (W : World) (g len cap k : Nat) (h : k ≤ len) (hc : len ≤ cap) :
    (Instr.slice 23 (.slice (some ⟨g, 0, none⟩) len cap) none (some (.int .i64 (k : Int))) none).run Try.prog W = .ok (.slice (some ⟨g, 0, none⟩) k cap) W := by
  have ht : Try.prog.underlying 23 = some (.slice (Try.prog.elem 23)) := by kernel_rfl
  have hs : ∀ w, (sizeOf (Try.prog.elem 23)).run Try.prog w = .ok 7 w := fun _ => by kernel_rfl
  rw [run_slice_h W 23 (some ⟨g, 0, none⟩) len cap ht .i64 (k : Int) (by omega) (by omega), hs]
  simp [Result.andThen, sliced, Addr.add]
theorem OpsAt.take {w : World} {b off : Nat} {l : List OpV} (h : OpsAt w (some ⟨b, off, none⟩) l) (k : Nat) : OpsAt w (some ⟨b, off, none⟩) (l.take k) := fun j hj => by
  have hj' : j < l.length := by rw [List.length_take] at hj; omega
  obtain ⟨b', off', e, hlt, ho⟩ := h j hj'
  exact ⟨b', off', e, hlt, by rw [List.getElem_take]; exact ho⟩
theorem OpsAt.low {w : World} {g : Nat} {l : List OpV} (h : OpsAt w (some ⟨g, 0, none⟩) l) {cap k : Nat} (hc : l.length ≤ cap) : OpsAt w (some ⟨g, lowOff cap k, none⟩) (l.drop k) := fun j hj => by
  have hj' : k + j < l.length := by rw [List.length_drop] at hj; omega
  have ho := h.at0 hj'
  obtain ⟨_, _, e, hlt, _⟩ := h (k + j) hj'
  cases e
  refine ⟨g, lowOff cap k, rfl, hlt, ?_⟩
  rw [List.getElem_drop]
  unfold lowOff
  rw [if_neg (by omega), ← Nat.add_mul]
  exact ho
theorem owns_base {w : World} {base base' : Nat} {T : TypeId} {v : Value} {n : Nat} {xs : List Value} (h : w.ownsRow base T 7 v n xs) (hb : base' ≤ base) : w.ownsRow base' T 7 v n xs := by
  refine ⟨h.1, ?_⟩
  rcases h.2 with hn | ⟨g, cap, cur, e, hg, rest⟩
  · exact .inl hn
  · exact .inr ⟨g, cap, cur, e, Nat.le_trans hb hg, rest⟩
theorem empty_row (X : World) : (X.alloc (.cells #[] 40)).ownsRow X.heap.size 40 7 (.slice (some ⟨X.heap.size, 0, none⟩) 0 0) 0 [] :=
  World.ownsRow_made X #[] 0 (Nat.le_refl _) (by decide) rfl
theorem _root_.Go.World.ownsRow.drewn {w : World} {base : Nat} {T : TypeId} {size : Nat} {v : Value} {n : Nat} {xs : List Value} (h : w.ownsRow base T size v n xs) : w.drew.ownsRow base T size v n xs := h
theorem take_len {l : List OpV} {k : Nat} (h : k ≤ l.length) : (flat (l.take k)).length = k * 7 := by rw [flat_len, List.length_take, Nat.min_eq_left h]
theorem drop_len (l : List OpV) (k : Nat) : (flat (l.drop k)).length = (l.length - k) * 7 := by rw [flat_len, List.length_drop]
theorem flat_ins (l : List OpV) (k : Nat) (o : OpV) : flat (l.take k) ++ o.cells ++ flat (l.drop k) = flat (l.take k ++ o :: l.drop k) := by
  rw [flat_app, flat_cons, List.append_assoc]
theorem op_one (o : OpV) : ∀ u ∈ o.cells, u.oneCell' = true := fun u hu => flat_one [o] u (by simpa [flat] using hu)
theorem cells3 {w : World} {g : Nat} {v0 v1 v2 : Value} {T : TypeId} (h : w.heap[g]? = some (.cells #[v0, v1, v2] T (0, 0))) :
    w.cell? ⟨g, 0, none⟩ = some v0 ∧ w.cell? ⟨g, 1, none⟩ = some v1 ∧ w.cell? ⟨g, 2, none⟩ = some v2 ∧ w.frozen? ⟨g, 0, none⟩ = false ∧ w.frozen? ⟨g, 1, none⟩ = false ∧ w.frozen? ⟨g, 2, none⟩ = false ∧ g < w.heap.size := by
  refine ⟨by simp [World.cell?, h], by simp [World.cell?, h], by simp [World.cell?, h], by simp [World.frozen?, h], by simp [World.frozen?, h], by simp [World.frozen?, h], ?_⟩
  exact (Array.getElem?_eq_some_iff.1 h).1

theorem OpsAt.nil_of {w : World} {l : List OpV} (h : OpsAt w none l) : l = [] := by
  cases l with
  | nil => rfl
  | cons o r => obtain ⟨b, off, e, _⟩ := h 0 (by simp); cases e
theorem OpsAt.news {w : World} {ad : Addr} {l : List OpV} (h : OpsAt w (some ad) l) : ∀ j u, (flat l)[j]? = some u → w.cell? (ad.add j) = some u := by
  cases l with
  | nil => intro j u hu; simp [flat] at hu
  | cons o r =>
    obtain ⟨b, off, e, _⟩ := h 0 (by simp)
    cases e
    exact h.cells
/-- Ops appended to a row of ops that the call owns: whatever slice they lie in, nil too. -/
theorem wpList_append_ops {ops : Array Oper} {rest : List Oper} {o : Oper} {a : Act} {w : World} {Q : Exit → Act → World → Prop} (hgd : o.guard = none) (s x : Operand)
    (ho : o.op = .call { callee := .builtin .append, args := #[s, x], argTypes := #[23, 23] })
    (base : Nat) (v : Value) (out : List OpV) (hs : a.eval s = v) (hown : w.ownsRow base 40 7 v out.length (flat out))
    (ao : Option Addr) (m : List OpV) (c : Nat) (hx : a.eval x = .slice ao m.length c) (hA : OpsAt w ao m)
    (hlen : out.length + m.length ≤ 4000000) (hbase : base ≤ w.heap.size)
    (h : ∀ v' w', w'.ownsRow base 40 7 v' (out ++ m).length (flat (out ++ m)) → w.grownBy w' v.ownBlock → (v' = .slice none 0 0 ↔ v = .slice none 0 0 ∧ m.length = 0) → wpList Try.prog ops Q rest (a.put o.dst v') w') : wpList Try.prog ops Q (o :: rest) a w := by
  obtain ⟨i0, hi, hzz⟩ := Option.map_eq_some_iff.1 infoOp
  simp only [Prod.mk.injEq] at hzz
  obtain ⟨hz0, hz1, hz2⟩ := hzz
  have hm : maxLen = 9223372036854775807 := rfl
  cases ao with
  | some ad =>
    refine wpList_append_own _ hgd s x 23 ho base 40 i0 _ 7 72 Try.underlying23 hi hz0 hz1 hz2 rfl (by decide) v out.length (flat out) hs hown ad m.length c (flat m) hx (flat_len m) hA.news (flat_one m) (by omega) (by omega) hbase (fun v' w' h1 h2 h3 => h v' w' ?_ h2 h3)
    rw [List.length_append, flat_app]; exact h1
  | none =>
    obtain rfl := hA.nil_of
    have hrun : (Builtin.append_ #[23, 23] o.type #[v, .slice none 0 c]).run Try.prog w = .ok v w := by
      rcases hown.2 with ⟨rfl, _⟩ | ⟨g, cap, cur, rfl, _, _, hnc, _⟩
      · simp [Builtin.append_, run_underlying Try.underlying23, sizeOf, typeInfo, hi, Builtin.lenOf, Builtin.firstCells]
      · simp [Builtin.append_, run_underlying Try.underlying23, sizeOf, typeInfo, hi, Builtin.lenOf, Builtin.firstCells, loadCells, storeCells, hnc]
    refine wpList_plain hgd fun K hK => ?_
    have hx' : a.eval x = .slice none 0 c := hx
    unfold Oper.wp execOp
    simp only [ho, resolve, invoke, builtin, Sem.run_bind, Sem.run_pure, Result.andThen_ok, List.map_toArray, List.map_cons, List.map_nil, hs, hx', hrun]
    refine hK _ _ (h v w ?_ ⟨rfl, rfl, rfl, Nat.le_refl _, fun _ _ _ => rfl⟩ (by simp))
    rw [List.append_nil]; exact hown
/-- Where a slice from k on begins. -/
def fromOff (o cap k : Nat) : Nat := if cap = k then o else o + k * 7
theorem slice_from (W : World) (g o len cap k : Nat) (K : Int) (hK : K = (k : Int)) (h : k ≤ len) :
    (Instr.slice 23 (.slice (some ⟨g, o, none⟩) len cap) (some (.int .i64 K)) none none).run Try.prog W = .ok (.slice (some ⟨g, fromOff o cap k, none⟩) (len - k) (cap - k)) W := by
  subst hK
  have ht : Try.prog.underlying 23 = some (.slice (Try.prog.elem 23)) := by kernel_rfl
  have hs : ∀ w, (sizeOf (Try.prog.elem 23)).run Try.prog w = .ok 7 w := fun _ => by kernel_rfl
  rw [run_slice_l W 23 (some ⟨g, o, none⟩) len cap ht .i64 (k : Int) (by omega) (by omega), hs]
  simp only [Result.andThen, sliced, Int.toNat_natCast, Option.map_some, add_plain]
  unfold fromOff
  by_cases e : cap = k
  · simp [e]
  · simp [e]
theorem slice_cut (W : World) (g o len cap k : Nat) (K : Int) (hK : K = (k : Int)) (h : k ≤ cap) :
    (Instr.slice 23 (.slice (some ⟨g, o, none⟩) len cap) none (some (.int .i64 K)) (some (.int .i64 K))).run Try.prog W = .ok (.slice (some ⟨g, o, none⟩) k k) W := by
  subst hK
  have ht : Try.prog.underlying 23 = some (.slice (Try.prog.elem 23)) := by kernel_rfl
  have hs : ∀ w, (sizeOf (Try.prog.elem 23)).run Try.prog w = .ok 7 w := fun _ => by kernel_rfl
  rw [run_slice_hm W 23 (some ⟨g, o, none⟩) len cap ht .i64 .i64 (k : Int) (k : Int) (by omega) (by omega) (by omega), hs]
  simp [Result.andThen, sliced, Addr.add]
theorem OpsAt.from {w : World} {g o : Nat} {l : List OpV} (h : OpsAt w (some ⟨g, o, none⟩) l) {cap : Nat} (k : Nat) (hc : l.length ≤ cap) : OpsAt w (some ⟨g, fromOff o cap k, none⟩) (l.drop k) := fun j hj => by
  have hj' : k + j < l.length := by rw [List.length_drop] at hj; omega
  have ho := h.atk hj'
  obtain ⟨_, _, e, hlt, _⟩ := h (k + j) hj'
  cases e
  refine ⟨g, fromOff o cap k, rfl, hlt, ?_⟩
  rw [List.getElem_drop]
  unfold fromOff
  rw [if_neg (by omega), Nat.add_assoc, ← Nat.add_mul]
  exact ho
end Go.Proofs.Ytlphcbgeagmopaa.OpR
