/- Rows of texts that the call owns, and what slices.Reverse makes of one; impl.joined of none. -/
import Derived.Test.YtmidembbanlleagJoin
import Derived.Test.YtmidembbanlleagRowG
namespace Go.Proofs.Ytmidembbanlleag.OpR
open Go.ChangeShapes Go.WideShapes Go.ChangeAt Go.RowKit
set_option linter.unusedVariables false

theorem infoStr : (Try.prog.info? 9).map (fun i => (i.zero, i.size, i.bytes)) = some (some (.string ⟨#[]⟩), 1, 16) := by kernel_rfl
def txts (ts : List ByteArray) : List Value := ts.map .string
theorem txts_one (ts : List ByteArray) : ∀ u ∈ txts ts, u.oneCell' = true := by
  intro u hu
  obtain ⟨t, _, rfl⟩ := List.mem_map.1 hu
  rfl
/-- A row of texts that the call owns. -/
def TxtRow (w : World) (base : Nat) (v : Value) (ts : List ByteArray) : Prop := w.ownsRow base 9 1 v ts.length (txts ts)
theorem TxtRow.at {w : World} {base : Nat} {v : Value} {ts : List ByteArray} (h : TxtRow w base v ts) (hne : ts ≠ []) : ∃ g cap, v = .slice (some ⟨g, 0, none⟩) ts.length cap ∧ base ≤ g ∧ g < w.heap.size ∧ ts.length ≤ cap ∧ ∀ j (hj : j < ts.length), w.cell? ⟨g, j, none⟩ = some (.string ts[j]) := by
  have h0 := h
  rcases h.2 with ⟨e, hn⟩ | ⟨g, cap, cur, rfl, hb, hg, hl, hm, hs, ht⟩
  · exact absurd (List.eq_nil_of_length_eq_zero hn) hne
  · refine ⟨g, cap, rfl, hb, (Array.getElem?_eq_some_iff.1 hg).1, hl, fun j hj => ?_⟩
    have hc := h0.cells rfl j (.string ts[j]) (by simp [txts, hj])
    rwa [Addr.add_lit, Nat.zero_add] at hc
theorem TxtRow.stays {w w' : World} {base : Nat} {v : Value} {ts : List ByteArray} (h : TxtRow w base v ts) (hb : Below w.heap.size w w') : TxtRow w' base v ts :=
  h.kept (row := none) ⟨hb.os, hb.tape, hb.output, hb.size, fun k hk _ => hb.block k hk⟩ (by cases hv : v.ownBlock <;> simp)
theorem TxtRow.store {w : World} {base g cap : Nat} {ts : List ByteArray} (h : TxtRow w base (.slice (some ⟨g, 0, none⟩) ts.length cap) ts) (p : Nat) (t : ByteArray) :
    TxtRow (w.setCell ⟨g, p, none⟩ (.string t)) base (.slice (some ⟨g, 0, none⟩) (ts.set p t).length cap) (ts.set p t) := by
  unfold TxtRow at h ⊢
  rw [List.length_set]
  rcases h.2 with ⟨e, _⟩ | ⟨g', cap', cur, e, hb, hg, h1, h2, h3, h4⟩
  · cases e
  · simp only [Value.slice.injEq, Option.some.injEq, Addr.mk.injEq] at e
    obtain ⟨⟨rfl, _⟩, _, rfl⟩ := e
    refine ⟨by simp [txts], .inr ⟨g, cap, (cur.toList.set p (.string t)).toArray, rfl, hb, ?_, h1, h2, by simp [h3], ?_⟩⟩
    · have := puts_block (w := w) (g := g) (T := 9) [.string t] cur.toList p w (by simpa using hg)
      exact this
    · rw [List.take_set, h4]
      simp [txts, List.map_set]
theorem TxtRow.frozen {w : World} {base g n cap : Nat} {ts : List ByteArray} (h : TxtRow w base (.slice (some ⟨g, 0, none⟩) n cap) ts) (p : Nat) : w.frozen? ⟨g, p, none⟩ = false := by
  rcases h.2 with ⟨e, _⟩ | ⟨g', cap', cur, e, hb, hg, h1, h2, h3, h4⟩
  · cases e
  · simp only [Value.slice.injEq, Option.some.injEq, Addr.mk.injEq] at e
    obtain ⟨⟨rfl, _⟩, _, rfl⟩ := e
    simp [World.frozen?, hg]
theorem TxtRow.cell {w : World} {base g n cap : Nat} {ts : List ByteArray} (h : TxtRow w base (.slice (some ⟨g, 0, none⟩) n cap) ts) : g < w.heap.size ∧ ∀ j (hj : j < ts.length), w.cell? ⟨g, j, none⟩ = some (.string ts[j]) := by
  have h0 := h
  rcases h.2 with ⟨e, _⟩ | ⟨g', cap', cur, e, hb, hg, h1, h2, h3, h4⟩
  · cases e
  · simp only [Value.slice.injEq, Option.some.injEq, Addr.mk.injEq] at e
    obtain ⟨⟨rfl, _⟩, _, rfl⟩ := e
    refine ⟨(Array.getElem?_eq_some_iff.1 hg).1, fun j hj => ?_⟩
    have hc := h0.cells rfl j (.string ts[j]) (by simp [txts, hj])
    rwa [Addr.add_lit, Nat.zero_add] at hc
theorem txt_grown_set {w c : World} {g : Nat} (h : w.grownBy c (some g)) (p : Nat) (u : Value) : w.grownBy (c.setCell ⟨g, p, none⟩ u) (some g) :=
  ⟨h.os, h.tape, h.output, Nat.le_trans h.size (by simp [World.setCell]), fun k hk hne => (Below.heap_setCell _ _ _ _ (fun e => hne (by rw [e]))).trans (h.block k hk hne)⟩
theorem wpList_append_T {ops : Array Oper} {rest : List Oper} {o : Oper} {a : Act} {w : World} {Q : Exit → Act → World → Prop} (hgd : o.guard = none) (s x : Operand)
    (ho : o.op = .call { callee := .builtin .append, args := #[s, x], argTypes := #[49, 49] })
    (base : Nat) (v : Value) (out : List ByteArray) (hs : a.eval s = v) (hown : TxtRow w base v out)
    (ad : Addr) (m : List ByteArray) (c : Nat) (hx : a.eval x = .slice (some ad) m.length c) (hn : ∀ j u, (txts m)[j]? = some u → w.cell? (ad.add j) = some u)
    (hlen : out.length + m.length ≤ 4000000) (hbase : base ≤ w.heap.size)
    (h : ∀ v' w', TxtRow w' base v' (out ++ m) → w.grownBy w' v.ownBlock → wpList Try.prog ops Q rest (a.put o.dst v') w') : wpList Try.prog ops Q (o :: rest) a w := by
  obtain ⟨i0, hi, hzz⟩ := Option.map_eq_some_iff.1 infoStr
  simp only [Prod.mk.injEq] at hzz
  obtain ⟨hz0, hz1, hz2⟩ := hzz
  have hm : maxLen = 9223372036854775807 := rfl
  refine wpList_append_own _ hgd s x 49 ho base 9 i0 _ 1 16 Try.underlying49 hi hz0 hz1 hz2 rfl (by decide) v out.length (txts out) hs hown ad m.length c (txts m) hx (by simp [txts]) hn (txts_one m) (by omega) (by omega) hbase (fun v' w' h1 h2 h3 => h v' w' ?_ h2)
  unfold TxtRow
  rw [List.length_append, show txts (out ++ m) = txts out ++ txts m by simp [txts]]
  exact h1
theorem news2 (x : World) (t0 t1 : ByteArray) (T : TypeId) : ∀ j u, (txts [t0, t1])[j]? = some u → (x.alloc (.cells #[.string t0, .string t1] T)).cell? ((⟨x.heap.size, 0, none⟩ : Addr).add j) = some u := by
  intro j u hu
  rw [Addr.add_lit, Nat.zero_add, World.cell?_alloc_at _ _ _ _ rfl]
  simpa [txts] using hu
theorem news1 (x : World) (t0 : ByteArray) (T : TypeId) : ∀ j u, (txts [t0])[j]? = some u → (x.alloc (.cells #[.string t0] T)).cell? ((⟨x.heap.size, 0, none⟩ : Addr).add j) = some u := by
  intro j u hu
  rw [Addr.add_lit, Nat.zero_add, World.cell?_alloc_at _ _ _ _ rfl]
  simpa [txts] using hu
/-- What has been turned round when i pairs have been exchanged. -/
def TurnedTo (ts xs : List ByteArray) (i : Nat) : Prop := xs.length = ts.length ∧ ∀ k, k < ts.length → xs[k]? = if k < i ∨ ts.length ≤ k + i then ts[ts.length - 1 - k]? else ts[k]?
theorem turned_start (ts : List ByteArray) : TurnedTo ts ts 0 := ⟨rfl, fun k hk => by rw [if_neg (by omega)]⟩
theorem turned_done {ts xs : List ByteArray} {i : Nat} (h : TurnedTo ts xs i) (hi : ts.length ≤ 2 * i + 1) : xs = ts.reverse := by
  apply List.ext_getElem?
  intro k
  by_cases hk : k < ts.length
  · rw [h.2 k hk, List.getElem?_reverse hk]
    split
    · rfl
    · rw [show ts.length - 1 - k = k by omega]
  · rw [List.getElem?_eq_none (by rw [h.1]; omega), List.getElem?_eq_none (by simp; omega)]
theorem turned_step {ts xs : List ByteArray} {i j : Nat} (h : TurnedTo ts xs i) (hij : i + j + 1 = ts.length) (hlt : i < j) (hi : i < xs.length) (hj : j < xs.length) : TurnedTo ts ((xs.set i xs[j]).set j xs[i]) (i + 1) := by
  have hxi : xs[i]? = ts[i]? := by rw [h.2 i (by omega), if_neg (by omega)]
  have hxj : xs[j]? = ts[j]? := by rw [h.2 j (by omega), if_neg (by omega)]
  refine ⟨by simp [h.1], fun k hk => ?_⟩
  rw [List.getElem?_set, List.length_set]
  by_cases e1 : j = k
  · subst e1
    rw [if_pos rfl, if_pos hj, if_pos (by omega), show ts.length - 1 - j = i by omega, ← hxi, List.getElem?_eq_getElem hi]
  · rw [if_neg e1, List.getElem?_set]
    by_cases e2 : i = k
    · subst e2
      rw [if_pos rfl, if_pos hi, if_pos (by omega), show ts.length - 1 - i = j by omega, ← hxj, List.getElem?_eq_getElem hj]
    · rw [if_neg e2, h.2 k hk]
      by_cases e3 : k < i ∨ ts.length ≤ k + i
      · rw [if_pos e3, if_pos (by omega)]
      · rw [if_neg e3, if_neg (by omega)]
end Go.Proofs.Ytmidembbanlleag.OpR
