/- What the laws of trees carry along: variables, trees that are looked at, trees that are marked. -/
import Derived.Test.YtcpgkalafkhlgafHdT
import Derived.Test.YtcpgkalafkhlgafTrLaw
namespace Go.Proofs.Ytcpgkalafkhlgaf.OpR
open Go.ChangeShapes Go.WideShapes Go.ChangeAt Go.RowKit
set_option linter.unusedVariables false

/-- How large trees are that the harness compares and marks. -/
def SzT (l : List NodG) : Prop := l.length ≤ 1048576 ∧ ∀ n ∈ l, n.props.length ≤ 1048576
theorem SzT.alike {l d : List NodG} (h : SzT l) (hb : d.map NodG.bare = l.map NodG.bare) : SzT d :=
  ⟨by rw [bare_len hb]; exact h.1, fun n hn => by obtain ⟨m, hm, e⟩ := bare_mem hb hn; rw [(bare_eq e).2.2.2]; exact h.2 m hm⟩
/-- Variables. -/
def VarsAt (c : World) (bs : List (Nat × Obj)) : Prop := ∀ p ∈ bs, c.heap[p.1]? = some p.2
structure St (w c : World) (bs : List (Nat × Obj)) : Prop where
  below : Below w.heap.size w c
  vars : VarsAt c bs
theorem St.step {w c c' : World} {bs : List (Nat × Obj)} (h : St w c bs) (hb : Below c.heap.size c c') : St w c' bs :=
  ⟨h.below.trans (hb.mono h.below.size), fun p hp => (hb.block p.1 (Array.getElem?_eq_some_iff.1 (h.vars p hp)).1).trans (h.vars p hp)⟩
theorem St.drew {w c : World} {bs : List (Nat × Obj)} (h : St w c bs) : St w c.drew bs := ⟨h.below.drew, h.vars⟩
theorem St.twixt {w c c' : World} {base top : Nat} {bs : List (Nat × Obj)} (h : St w c bs) (ht : Twixt base top c c') (hb : w.heap.size ≤ base) (hn : ∀ p ∈ bs, p.1 < base ∨ top ≤ p.1) : St w c' bs := by
  have hs := h.below.size
  exact ⟨⟨ht.os.trans h.below.os, ht.tape.trans h.below.tape, ht.output.trans h.below.output, Nat.le_trans hs ht.size, fun k hk => (ht.block k (by omega) (.inl (by omega))).trans (h.below.block k hk)⟩, fun p hp => (ht.block p.1 (Array.getElem?_eq_some_iff.1 (h.vars p hp)).1 (hn p hp)).trans (h.vars p hp)⟩
theorem St.new {w c : World} {bs : List (Nat × Obj)} (h : St w c bs) (o : Obj) : St w (c.alloc o) ((c.heap.size, o) :: bs) :=
  ⟨h.below.alloc h.below.size o, fun p hp => by
    rcases List.mem_cons.1 hp with rfl | hp
    · exact heap_alloc_new c o
    · exact (Below.heap_alloc c o p.1 (Array.getElem?_eq_some_iff.1 (h.vars p hp)).1).trans (h.vars p hp)⟩
theorem St.bare {w c : World} (h : Below w.heap.size w c) : St w c [] := ⟨h, fun p hp => absurd hp (by simp)⟩
theorem St.one {w c : World} {bs : List (Nat × Obj)} (h : St w c bs) {b : Nat} {v : Value} {T : TypeId} (hm : (b, Obj.cells #[v] T) ∈ bs) : c.cell? ⟨b, 0, none⟩ = some v := (cells1 (h.vars _ hm)).1
theorem St.lt {w c : World} {bs : List (Nat × Obj)} (h : St w c bs) {p : Nat × Obj} (hm : p ∈ bs) : p.1 < c.heap.size := (Array.getElem?_eq_some_iff.1 (h.vars p hm)).1
theorem St.op {w c : World} {bs : List (Nat × Obj)} (h : St w c bs) {b : Nat} {o : OpV} {T : TypeId} (hm : (b, Obj.cells #[.int .i64 o.time, .int .i64 o.repl, .int .i64 o.kind, .int .i64 o.node, .int .i64 o.parent, .string o.name, .string o.value] T) ∈ bs) : c.cell? ⟨b, 0, none⟩ = some (.int .i64 o.time) ∧ c.cell? ⟨b, 1, none⟩ = some (.int .i64 o.repl) ∧ c.cell? ⟨b, 2, none⟩ = some (.int .i64 o.kind) ∧ c.cell? ⟨b, 3, none⟩ = some (.int .i64 o.node) ∧ c.cell? ⟨b, 4, none⟩ = some (.int .i64 o.parent) ∧ c.cell? ⟨b, 5, none⟩ = some (.string o.name) ∧ c.cell? ⟨b, 6, none⟩ = some (.string o.value) := by
  have e := h.vars _ hm
  refine ⟨?_, ?_, ?_, ?_, ?_, ?_, ?_⟩ <;> simp [World.cell?, e]

theorem St.head {w c : World} {b : Nat} {o : Obj} {bs : List (Nat × Obj)} (h : St w c ((b, o) :: bs)) : c.heap[b]? = some o := h.vars (b, o) (by simp)
theorem St.tail {w c : World} {p : Nat × Obj} {bs : List (Nat × Obj)} (h : St w c (p :: bs)) : St w c bs := ⟨h.below, fun q hq => h.vars q (by simp [hq])⟩
theorem St.put {w c : World} {b : Nat} {u v : Value} {T : TypeId} {bs : List (Nat × Obj)} (h : St w c ((b, Obj.cells #[u] T) :: bs)) (hb : w.heap.size ≤ b) (hn : ∀ p ∈ bs, p.1 ≠ b) : St w (c.setCell ⟨b, 0, none⟩ v) ((b, Obj.cells #[v] T) :: bs) :=
  ⟨h.below.setCell (p := ⟨b, 0, none⟩) hb v, fun q hq => by
    rcases List.mem_cons.1 hq with rfl | hq
    · exact set_block h.head 0 v
    · exact (Below.heap_setCell _ _ _ _ (hn q hq)).trans (h.vars q (by simp [hq]))⟩
theorem skipB {c c' : World} {o : Obj} (h : Below (c.alloc o).heap.size (c.alloc o) c') : Below c.heap.size c c' := ((Below.refl _ c).alloc (Nat.le_refl _) o).trans (h.mono (by simp))
theorem drewB {c c' : World} (h : Below c.drew.heap.size c.drew c') : Below c.heap.size c c' := ((Below.refl _ c).drew).trans (h.mono (Nat.le_refl _))
theorem skipD {c c' : World} {o : Obj} (h : Below (c.alloc o).drew.heap.size (c.alloc o).drew c') : Below c.heap.size c c' := skipB (drewB h)
theorem below_put {B : Nat} {a c : World} {b : Nat} (h : Below B a c) (hb : B ≤ b) (v : Value) : Below B a (c.setCell ⟨b, 0, none⟩ v) := h.setCell (p := ⟨b, 0, none⟩) hb v
/-- A tree that is looked at alone, all of it below N. -/
structure Lies (N : Nat) (c : World) (ao : Option Addr) (l : List NodG) : Prop where
  at_ : NodesAt c ao l
  low : ∀ j (hj : j < l.length) a, ao = some a → a.block < N
  plow : ∀ n ∈ l, n.props ≠ [] → ∀ a, n.pao = some a → a.block < N
theorem Lies.of {c : World} {ao : Option Addr} {l : List NodG} (h : NodesAt c ao l) : Lies c.heap.size c ao l :=
  ⟨h, fun j hj a ha => by obtain ⟨b, off, e, hlt, _⟩ := h j hj; rw [ha] at e; cases e; exact hlt, fun n hn hne a ha => by
    obtain ⟨b, off, e, hlt, _⟩ := h.props n hn 0 (List.length_pos_iff.2 hne)
    rw [ha] at e
    cases e
    exact hlt⟩
theorem Lies.step {N : Nat} {c c' : World} {ao : Option Addr} {l : List NodG} (h : Lies N c ao l) (hb : Below c.heap.size c c') : Lies N c' ao l := ⟨h.at_.stays hb, h.low, h.plow⟩
theorem Lies.drew {N : Nat} {c : World} {ao : Option Addr} {l : List NodG} (h : Lies N c ao l) : Lies N c.drew ao l := h.step (Below.refl _ _).drew
theorem Lies.twixt {N base top : Nat} {c c' : World} {ao : Option Addr} {l : List NodG} (h : Lies N c ao l) (ht : Twixt base top c c') (hN : N ≤ base) : Lies N c' ao l := by
  refine ⟨fun j hj => ?_, h.low, h.plow⟩
  obtain ⟨b, off, e, hlt, ho, hp⟩ := h.at_ j hj
  have hbN : b < N := h.low j hj _ e
  refine ⟨b, off, e, Nat.lt_of_lt_of_le hlt ht.size, ho.block (ht.block b hlt (.inl (by omega))), fun i hi => ?_⟩
  obtain ⟨b2, off2, e2, hlt2, ho2⟩ := hp i hi
  have hb2 : b2 < N := h.plow l[j] (List.getElem_mem hj) (fun e => by rw [e] at hi; simp at hi) _ e2
  exact ⟨b2, off2, e2, Nat.lt_of_lt_of_le hlt2 ht.size, ho2.block (ht.block b2 hlt2 (.inl (by omega)))⟩
theorem Lies.put {N b : Nat} {c : World} {ao : Option Addr} {l : List NodG} (h : Lies N c ao l) (hb : ∀ j (hj : j < l.length) a, ao = some a → a.block ≠ b) (hp : ∀ n ∈ l, n.props ≠ [] → ∀ a, n.pao = some a → a.block ≠ b) (v : Value) : Lies N (c.setCell ⟨b, 0, none⟩ v) ao l := by
  refine ⟨fun j hj => ?_, h.low, h.plow⟩
  obtain ⟨b1, off, e, hlt, ho, hps⟩ := h.at_ j hj
  refine ⟨b1, off, e, by simpa [World.setCell] using hlt, ho.block (Below.heap_setCell _ _ _ _ (hb j hj _ e)), fun i hi => ?_⟩
  obtain ⟨b2, off2, e2, hlt2, ho2⟩ := hps i hi
  exact ⟨b2, off2, e2, by simpa [World.setCell] using hlt2, ho2.block (Below.heap_setCell _ _ _ _ (hp l[j] (List.getElem_mem hj) (fun e => by rw [e] at hi; simp at hi) _ e2))⟩
theorem Lies.over {N b : Nat} {c : World} {ao : Option Addr} {l : List NodG} (h : Lies N c ao l) (hb : N ≤ b) (v : Value) : Lies N (c.setCell ⟨b, 0, none⟩ v) ao l :=
  h.put (fun j hj a ha => by have := h.low j hj a ha; omega) (fun n hn hne a ha => by have := h.plow n hn hne a ha; omega) v
theorem TreeOwn.over {w : World} {base top b : Nat} {v : Value} {l : List NodG} (h : TreeOwn w base v l) (hU : Under top v l) (hb : top ≤ b) (u : Value) : TreeOwn (w.setCell ⟨b, 0, none⟩ u) base v l := by
  have hg : w.grownBy (w.setCell ⟨b, 0, none⟩ u) (some b) := ⟨rfl, rfl, rfl, by simp [World.setCell], fun k hk hne => Below.heap_setCell _ _ _ _ (fun e => hne (by rw [e]))⟩
  refine ⟨h.row.kept hg (.inr (fun e => by have := hU.1 b e; omega)), fun n hn => (h.props n hn).kept hg ?_, h.apart, h.off⟩
  cases hp : n.pao with
  | none => exact .inl rfl
  | some x => exact .inr (fun e => by have := hU.2 n hn x hp; have e2 : x.block = b := Option.some.inj e; omega)
theorem owns_keeps {w w' : World} {base : Nat} {e : TypeId} {size : Nat} {v : Value} {n : Nat} {xs : List Value} (h : w.ownsRow base e size v n xs) (he : ∀ g, base ≤ g → g < w.heap.size → w'.heap[g]? = w.heap[g]?) : w'.ownsRow base e size v n xs :=
  ⟨h.1, h.2.imp id fun ⟨g, cap, cur, e1, hb, hg, r⟩ => ⟨g, cap, cur, e1, hb, (he g hb (Array.getElem?_eq_some_iff.1 hg).1).trans hg, r⟩⟩
theorem TreeOwn.keeps {w w' : World} {base : Nat} {v : Value} {l : List NodG} (h : TreeOwn w base v l) (he : ∀ g, base ≤ g → g < w.heap.size → w'.heap[g]? = w.heap[g]?) : TreeOwn w' base v l :=
  ⟨owns_keeps h.row he, fun n hn => owns_keeps (h.props n hn) he, h.apart, h.off⟩
theorem TreeOwn.twixt {w w' : World} {b base top : Nat} {v : Value} {l : List NodG} (h : TreeOwn w b v l) (ht : Twixt base top w w') (hb : top ≤ b) : TreeOwn w' b v l := h.keeps (fun g hg hl => ht.block g hl (.inr (by omega)))
end Go.Proofs.Ytcpgkalafkhlgaf.OpR
