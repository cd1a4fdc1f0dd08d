/- Proves what laws.markText tells: one text a number. Proves what the harness' marks do to props, and what its look at them tells. Rows of numbers that the call owns; what the harness does with them. Proves what impl.Children tells. What is asked of trees, as functions of their nodes: a prop's value. Paths of nodes, as functions of a tree: the names from a node up, and what stands at the way's end. Proves what spec.PathOf tells. Proves what spec.Children tells. -/
import Derived.Test.YtmidembbanlleafDoorOpM
import Derived.Lib.ConvBytes
import Derived.Test.YtmidembbanlleafDoorRowS
import Derived.Test.YtmidembbanlleafDoorKidM
import Derived.Test.YtmidembbanlleafDoorITree
import Derived.Test.YtmidembbanlleafDoorTrB
import Derived.Test.YtmidembbanlleafDoorSpV
import Derived.Test.YtmidembbanlleafDoorJoin
namespace Go.Proofs.YtmidembbanlleafDoor.OpR
open Go.ChangeShapes Go.WideShapes Go.ChangeAt Go.RowKit
set_option linter.unusedVariables false

def digB (k : Nat) : ByteArray := ⟨#[UInt8.ofNat (48 + k % 10)]⟩
def dig : Nat → Nat → ByteArray → ByteArray
  | 0, _, out => out
  | f + 1, k, out => if k = 0 then out else dig f (k / 10) (digB k ++ out)
theorem dig_end {f : Nat} {out : ByteArray} : dig f 0 out = out := by cases f <;> simp [dig]
theorem dig_more {f k : Nat} {out : ByteArray} (h : ¬ k = 0) : dig (f + 1) k out = dig f (k / 10) (digB k ++ out) := if_neg h
theorem dig_fuel : ∀ (f g k : Nat) (out : ByteArray), k ≤ f → k ≤ g → dig f k out = dig g k out
  | 0, g, k, out, h1, h2 => by obtain rfl : k = 0 := by omega
                               rw [dig_end, dig_end]
  | f + 1, 0, k, out, h1, h2 => by obtain rfl : k = 0 := by omega
                                   rw [dig_end, dig_end]
  | f + 1, g + 1, k, out, h1, h2 => by
    by_cases h : k = 0
    · subst h; rw [dig_end, dig_end]
    · rw [dig_more h, dig_more h, dig_fuel f g (k / 10) _ (by omega) (by omega)]
theorem dig_step {k : Nat} {out : ByteArray} (h : ¬ k = 0) : dig k k out = dig (k / 10) (k / 10) (digB k ++ out) := by
  obtain ⟨f, rfl⟩ : ∃ f, k = f + 1 := ⟨k - 1, by omega⟩
  rw [dig_more h, dig_fuel f ((f + 1) / 10) _ _ (by omega) (Nat.le_refl _)]
/-- The text of a number. -/
def mt (k : Nat) : ByteArray := ⟨#[109]⟩ ++ dig k k ⟨#[]⟩

end Go.Proofs.YtmidembbanlleafDoor.OpR
namespace Go.Proofs.YtmidembbanlleafDoor.OpR
open Go.ChangeShapes Go.WideShapes Go.ChangeAt Go.RowKit
set_option linter.unusedVariables false

/-- Props that are marked from k on. -/
def markP (k n : Nat) : List PropV := (List.range n).map fun j => ⟨mt (k + 2 * j), mt (k + 2 * j + 1)⟩
theorem markP_len (k n : Nat) : (markP k n).length = n := by simp [markP]
theorem markP_get {k n j : Nat} (h : j < (markP k n).length) : (markP k n)[j] = ⟨mt (k + 2 * j), mt (k + 2 * j + 1)⟩ := by simp [markP]
/-- The first ones of one list, the rest of another. -/
def mixG {α : Type} (a b : List α) (j : Nat) : List α := a.take j ++ b.drop j
theorem mixG_len {α : Type} {a b : List α} (h : a.length = b.length) {j : Nat} (hj : j ≤ b.length) : (mixG a b j).length = b.length := by simp [mixG]; omega
theorem mixG_get {α : Type} {a b : List α} (h : a.length = b.length) {j : Nat} (hj : j < b.length) (hm : j < (mixG a b j).length) : (mixG a b j)[j] = b[j] := by
  simp only [mixG]
  rw [List.getElem_append_right (by simp; omega)]
  simp [Nat.min_eq_left (show j ≤ a.length by omega)]
theorem mixG_set {α : Type} {a b : List α} (h : a.length = b.length) {j : Nat} (hj : j < b.length) (ha : j < a.length) : (mixG a b j).set j a[j] = mixG a b (j + 1) := by
  unfold mixG
  have e1 : (a.take j).length = j := by simp; omega
  rw [List.set_append_right _ _ (by omega), e1, Nat.sub_self, List.drop_eq_getElem_cons hj, List.set_cons_zero, ← List.take_append_getElem ha, List.append_assoc]
  rfl
theorem mixG_all {α : Type} {a b : List α} (h : a.length = b.length) : mixG a b b.length = a := by simp [mixG, ← h]
theorem mixG_zero {α : Type} (a b : List α) : mixG a b 0 = b := by simp [mixG]
theorem row_cell {w : World} {base : Nat} {T : TypeId} {c g n cap : Nat} {xs : List Value} (h : w.ownsRow base T c (.slice (some ⟨g, 0, none⟩) n cap) n xs) {i : Nat} (hi : i < xs.length) : w.cell? ⟨g, i, none⟩ = some xs[i] := by
  have := h.cells rfl i xs[i] (List.getElem?_eq_getElem hi)
  rwa [Addr.add_lit, Nat.zero_add] at this
theorem grow_refl (W : World) (r : Option Nat) : W.grownBy W r := ⟨rfl, rfl, rfl, Nat.le_refl _, fun _ _ _ => rfl⟩
theorem grow_set {w c : World} {g : Nat} (h : w.grownBy c (some g)) (p : Nat) (u : Value) : w.grownBy (c.setCell ⟨g, p, none⟩ u) (some g) :=
  ⟨h.os, h.tape, h.output, Nat.le_trans h.size (by simp [World.setCell]), fun k hk hne => (Below.heap_setCell _ _ _ _ (fun e => hne (by rw [e]))).trans (h.block k hk hne)⟩
theorem grow_below {w c c' : World} {r : Option Nat} (h : w.grownBy c r) (hb : Below c.heap.size c c') : w.grownBy c' r :=
  ⟨hb.os.trans h.os, hb.tape.trans h.tape, hb.output.trans h.output, Nat.le_trans h.size hb.size, fun k hk hne => (hb.block k (Nat.lt_of_lt_of_le hk h.size)).trans (h.block k hk hne)⟩

end Go.Proofs.YtmidembbanlleafDoor.OpR
namespace Go.Proofs.YtmidembbanlleafDoor.OpR
open Go.ChangeShapes Go.WideShapes Go.ChangeAt Go.RowKit
set_option linter.unusedVariables false

theorem infoInt : (Tryd.prog.info? 2).map (fun i => (i.zero, i.size, i.bytes)) = some (some (.int .i64 0), 1, 8) := by kernel_rfl
def ints (xs : List Int) : List Value := xs.map (.int .i64)
theorem ints_one (xs : List Int) : ∀ u ∈ ints xs, u.oneCell' = true := by
  intro u hu
  obtain ⟨t, _, rfl⟩ := List.mem_map.1 hu
  rfl
/-- The numbers of a slice. -/
def IntsAt (w : World) (ao : Option Addr) (xs : List Int) : Prop := ∀ j (hj : j < xs.length), ∃ b off, ao = some ⟨b, off, none⟩ ∧ b < w.heap.size ∧ w.cell? ⟨b, off + j, none⟩ = some (.int .i64 xs[j])
theorem IntsAt.stays {w w' : World} {ao : Option Addr} {xs : List Int} (h : IntsAt w ao xs) (hb : Below w.heap.size w w') : IntsAt w' ao xs := fun j hj => by
  obtain ⟨b, off, e, hlt, ho⟩ := h j hj
  exact ⟨b, off, e, Nat.lt_of_lt_of_le hlt hb.size, (by simpa only [World.cell?, hb.block b hlt] using ho)⟩
def IntRow (w : World) (base : Nat) (v : Value) (xs : List Int) : Prop := w.ownsRow base 2 1 v xs.length (ints xs)
theorem IntRow.at {w : World} {base : Nat} {v : Value} {xs : List Int} (h : IntRow w base v xs) : ∃ ao cap, v = .slice ao xs.length cap ∧ xs.length ≤ cap ∧ IntsAt w ao xs := by
  have h0 := h
  rcases h.2 with ⟨e, hn⟩ | ⟨g, cap, cur, rfl, hb, hg, hl, hm, hs, ht⟩
  · obtain rfl : xs = [] := List.eq_nil_of_length_eq_zero hn
    exact ⟨none, 0, e, Nat.le_refl _, fun j hj => absurd hj (by simp)⟩
  · refine ⟨some ⟨g, 0, none⟩, cap, rfl, hl, fun j hj => ⟨g, 0, rfl, (Array.getElem?_eq_some_iff.1 hg).1, ?_⟩⟩
    have hc := h0.cells rfl j (.int .i64 xs[j]) (by simp [ints, hj])
    rwa [Addr.add_lit] at hc
theorem IntRow.stays {w w' : World} {base : Nat} {v : Value} {xs : List Int} (h : IntRow w base v xs) (hb : Below w.heap.size w w') : IntRow w' base v xs := owns_stays2 h hb
theorem wpList_append_I {ops : Array Oper} {rest : List Oper} {o : Oper} {a : Act} {w : World} {Q : Exit → Act → World → Prop} (hgd : o.guard = none) (s x : Operand)
    (ho : o.op = .call { callee := .builtin .append, args := #[s, x], argTypes := #[58, 58] })
    (base : Nat) (v : Value) (out : List Int) (hs : a.eval s = v) (hown : IntRow w base v out)
    (ad : Addr) (m : List Int) (c : Nat) (hx : a.eval x = .slice (some ad) m.length c) (hn : ∀ j u, (ints m)[j]? = some u → w.cell? (ad.add j) = some u)
    (hlen : out.length + m.length ≤ 4000000) (hbase : base ≤ w.heap.size)
    (h : ∀ v' w', IntRow w' base v' (out ++ m) → w.grownBy w' v.ownBlock → wpList Tryd.prog ops Q rest (a.put o.dst v') w') : wpList Tryd.prog ops Q (o :: rest) a w := by
  obtain ⟨i0, hi, hzz⟩ := Option.map_eq_some_iff.1 infoInt
  simp only [Prod.mk.injEq] at hzz
  obtain ⟨hz0, hz1, hz2⟩ := hzz
  have hm : maxLen = 9223372036854775807 := rfl
  refine wpList_append_own _ hgd s x 58 ho base 2 i0 _ 1 8 Tryd.underlying58 hi hz0 hz1 hz2 rfl (by decide) v out.length (ints out) hs hown ad m.length c (ints m) hx (by simp [ints]) hn (ints_one m) (by omega) (by omega) hbase (fun v' w' h1 h2 h3 => h v' w' ?_ h2)
  unfold IntRow
  rw [List.length_append, show ints (out ++ m) = ints out ++ ints m by simp [ints]]
  exact h1
theorem newsI (x : World) (t0 : Int) (T : TypeId) : ∀ j u, (ints [t0])[j]? = some u → (x.alloc (.cells #[.int .i64 t0] T)).cell? ((⟨x.heap.size, 0, none⟩ : Addr).add j) = some u := by
  intro j u hu
  rw [Addr.add_lit, Nat.zero_add, World.cell?_alloc_at _ _ _ _ rfl]
  simpa [ints] using hu
theorem IntsAt.news {w : World} {b off : Nat} {xs : List Int} (h : IntsAt w (some ⟨b, off, none⟩) xs) : ∀ j u, (ints xs)[j]? = some u → w.cell? ((⟨b, off, none⟩ : Addr).add j) = some u := by
  intro j u hu
  have hj : j < xs.length := by simpa [ints] using (List.getElem?_eq_some_iff.1 hu).1
  obtain ⟨b', off', e, _, ho⟩ := h j hj
  cases e
  rw [Addr.add_lit, ho]
  simpa [ints, hj] using hu

/-- Numbers that are marked from k on. -/
def markI (k n : Nat) : List Int := (List.range n).map fun j => ((k + j : Nat) : Int)
theorem markI_len (k n : Nat) : (markI k n).length = n := by simp [markI]
theorem markI_get {k n j : Nat} (h : j < (markI k n).length) : (markI k n)[j] = ((k + j : Nat) : Int) := by simp [markI]
end Go.Proofs.YtmidembbanlleafDoor.OpR
namespace Go.Proofs.YtmidembbanlleafDoor.OpR
open Go.ChangeShapes Go.WideShapes Go.ChangeAt Go.RowKit
set_option linter.unusedVariables false

def kidIds (l : List NodG) (x : Int) : List Int := if treeRight l = true then (kids l x).map NodG.id else []
theorem kidIds_no {l : List NodG} {x : Int} (h : treeRight l = false) : kidIds l x = [] := by unfold kidIds; rw [h]; rfl
theorem kidIds_yes {l : List NodG} {x : Int} (h : treeRight l = true) : kidIds l x = (kids l x).map NodG.id := by unfold kidIds; rw [if_pos h]
end Go.Proofs.YtmidembbanlleafDoor.OpR
namespace Go.Proofs.YtmidembbanlleafDoor.OpR
open Go.ChangeShapes Go.WideShapes Go.ChangeAt Go.RowKit
set_option linter.unusedVariables false

theorem str_inj {a b : ByteArray} (h : a.toList = b.toList) : a = b := by
  rw [ByteArray.toList_eq, ByteArray.toList_eq] at h
  exact ByteArray.ext (Array.toList_inj.1 h)
/-- The value of the first prop of a key. -/
def valOf (k : ByteArray) : List PropV → ByteArray
  | [] => ⟨#[]⟩
  | p :: r => if p.key = k then p.value else valOf k r
theorem valOf_hit {k : ByteArray} {l : List PropV} {i : Nat} (h : i < l.length) (he : l[i].key = k) : valOf k (l.drop i) = l[i].value := by
  rw [List.drop_eq_getElem_cons h, valOf, if_pos he]
theorem valOf_miss {k : ByteArray} {l : List PropV} {i : Nat} (h : i < l.length) (he : ¬ l[i].key = k) : valOf k (l.drop i) = valOf k (l.drop (i + 1)) := by
  rw [List.drop_eq_getElem_cons h, valOf, if_neg he]
theorem valOf_end (k : ByteArray) (l : List PropV) : valOf k (l.drop l.length) = ⟨#[]⟩ := by
  rw [List.drop_length]; rfl
def propB (l : List NodG) (x : Int) (k : ByteArray) : ByteArray :=
  if k.size ≤ 8000 ∧ treeRight l = true then match nodOf l x with
    | none => ⟨#[]⟩
    | some n => valOf k n.props
  else ⟨#[]⟩
theorem propB_long {l : List NodG} {x : Int} {k : ByteArray} (h : ¬ k.size ≤ 8000) : propB l x k = ⟨#[]⟩ := by
  unfold propB; rw [if_neg (fun e => h e.1)]
theorem propB_wrong {l : List NodG} {x : Int} {k : ByteArray} (h : treeRight l = false) : propB l x k = ⟨#[]⟩ := by
  unfold propB; rw [if_neg (fun e => by rw [h] at e; exact absurd e.2 (by decide))]
theorem propB_none {l : List NodG} {x : Int} {k : ByteArray} (h : nodOf l x = none) : propB l x k = ⟨#[]⟩ := by
  unfold propB; rw [h]; split <;> rfl
theorem propB_some {l : List NodG} {x : Int} {k : ByteArray} {n : NodG} (h1 : k.size ≤ 8000) (h2 : treeRight l = true) (h : nodOf l x = some n) : propB l x k = valOf k n.props := by
  unfold propB; rw [if_pos ⟨h1, h2⟩, h]
theorem propB_alike {l d : List NodG} (h : d.map NodG.bare = l.map NodG.bare) (x : Int) (k : ByteArray) : propB d x k = propB l x k := by
  have e : ∀ l : List NodG, propB (l.map NodG.bare) x k = propB l x k := fun l => by
    unfold propB
    rw [tree_bare, nodOf_bare]
    cases nodOf l x <;> rfl
  rw [← e d, h, e]
end Go.Proofs.YtmidembbanlleafDoor.OpR
namespace Go.Proofs.YtmidembbanlleafDoor.OpR
open Go.ChangeShapes Go.WideShapes Go.ChangeAt Go.RowKit
set_option linter.unusedVariables false

def wayN (l : List NodG) : Nat → Int → List ByteArray
  | 0, _ => []
  | k + 1, x => match nodOf l x with
    | none => []
    | some n => n.name :: wayN l k n.parent
def topN (l : List NodG) : Nat → Int → Int
  | 0, x => x
  | k + 1, x => match nodOf l x with
    | none => x
    | some n => topN l k n.parent
/-- The names of a way down, each behind a sign. -/
def pathR : List ByteArray → ByteArray
  | [] => ⟨#[]⟩
  | n :: r => ⟨#[47]⟩ ++ n ++ pathR r
def pathA (d : List ByteArray) : ByteArray := pathR d.reverse
theorem pathA_snoc (d : List ByteArray) (n : ByteArray) : pathA (d ++ [n]) = ⟨#[47]⟩ ++ n ++ pathA d := by
  unfold pathA
  rw [List.reverse_append]
  rfl
theorem way_none {l : List NodG} {x : Int} (h : nodOf l x = none) : ∀ k, wayN l k x = [] ∧ topN l k x = x
  | 0 => ⟨rfl, rfl⟩
  | k + 1 => by simp [wayN, topN, h]
theorem way_some {l : List NodG} {x : Int} {n : NodG} (h : nodOf l x = some n) (k : Nat) : wayN l (k + 1) x = n.name :: wayN l k n.parent ∧ topN l (k + 1) x = topN l k n.parent := by
  simp [wayN, topN, h]
theorem par_of {l : List NodG} {x : Int} {n : NodG} (h : nodOf l x = some n) : par l x = some n.parent := by unfold par; rw [h]; rfl
theorem par_not {l : List NodG} {x : Int} (h : par l x = none) : nodOf l x = none := by
  unfold par at h
  cases e : nodOf l x with
  | none => rfl
  | some n => rw [e] at h; cases h
theorem way_stable {l : List NodG} (h0 : par l 0 = none) (h1 : par l 1 = none) : ∀ {k : Nat} {x : Int}, endsF (par l) k x = true → wayN l (k + 1) x = wayN l k x ∧ topN l (k + 1) x = topN l k x := by
  intro k
  induction k with
  | zero => intro x h; simp [endsF] at h
  | succ k ih =>
    intro x h
    obtain ⟨j, e, hc⟩ := ends_cases h
    obtain rfl := Nat.succ.inj e
    rcases hc with hx | ⟨_, _, z, hz, hk⟩
    · have hn : nodOf l x = none := by rcases hx with rfl | rfl <;> exact par_not (by assumption)
      rw [(way_none hn _).1, (way_none hn _).1, (way_none hn _).2, (way_none hn _).2]
      exact ⟨rfl, rfl⟩
    · cases en : nodOf l x with
      | none => unfold par at hz; rw [en] at hz; cases hz
      | some n =>
        rw [par_of en] at hz
        cases hz
        rw [(way_some en _).1, (way_some en _).1, (way_some en _).2, (way_some en _).2, (ih hk).1, (ih hk).2]
        exact ⟨rfl, rfl⟩
/-- A step of a way up in a right tree. -/
theorem way_step {l : List NodG} (h0 : par l 0 = none) (h1 : par l 1 = none) {x : Int} {n : NodG} (he : endsF (par l) (l.length + 1) x = true) (hn : nodOf l x = some n) :
    endsF (par l) l.length n.parent = true ∧ wayN l (l.length + 1) x = n.name :: wayN l (l.length + 1) n.parent ∧ topN l (l.length + 1) x = topN l (l.length + 1) n.parent ∧ stepsF (par l) (l.length + 1) n.parent < stepsF (par l) (l.length + 1) x := by
  obtain ⟨i, e, hx | ⟨e0, e1, z, hz, hk⟩⟩ := ends_cases he
  · have : nodOf l x = none := by rcases hx with rfl | rfl <;> exact par_not (by assumption)
    rw [this] at hn; cases hn
  · obtain rfl := Nat.succ.inj e
    rw [par_of hn] at hz
    cases hz
    refine ⟨hk, ?_, ?_, ?_⟩
    · rw [(way_some hn _).1, (way_stable h0 h1 hk).1]
    · rw [(way_some hn _).2, (way_stable h0 h1 hk).2]
    · rw [steps_stable hk]
      have e : stepsF (par l) (l.length + 1) x = stepsF (par l) l.length n.parent + 1 := by simp [stepsF, e0, e1, par_of hn]
      omega
/-- Where a way ends. -/
theorem way_end {l : List NodG} {x : Int} (he : endsF (par l) (l.length + 1) x = true) (hn : nodOf l x = none) : x = 0 ∨ x = 1 := by
  obtain ⟨i, e, hx | ⟨e0, e1, z, hz, hk⟩⟩ := ends_cases he
  · exact hx
  · unfold par at hz; rw [hn] at hz; cases hz
theorem steps_le (f : Int → Option Int) : ∀ (k : Nat) (x : Int), stepsF f k x ≤ k
  | 0, _ => Nat.le_refl _
  | k + 1, x => by
    unfold stepsF
    split
    · omega
    · cases f x with
      | none => simp
      | some y => have := steps_le f k y; simp only; omega
theorem pathA_size (d : List ByteArray) (n : ByteArray) : (pathA (d ++ [n])).size = 1 + n.size + (pathA d).size := by
  rw [pathA_snoc, ByteArray.size_append, ByteArray.size_append]
  rfl
def pathB (l : List NodG) (x : Int) : ByteArray :=
  if treeRight l = true ∧ (nodOf l x).isSome = true then
    (if topN l (l.length + 1) x = 1 then ⟨#[126]⟩ ++ pathA (wayN l (l.length + 1) x) else pathA (wayN l (l.length + 1) x))
  else ⟨#[]⟩
theorem pathB_no {l : List NodG} {x : Int} (h : ¬ (treeRight l = true ∧ (nodOf l x).isSome = true)) : pathB l x = ⟨#[]⟩ := by
  unfold pathB; rw [if_neg h]
theorem pathB_yes {l : List NodG} {x : Int} {n : NodG} (h1 : treeRight l = true) (h2 : nodOf l x = some n) : pathB l x = (if topN l (l.length + 1) x = 1 then ⟨#[126]⟩ ++ pathA (wayN l (l.length + 1) x) else pathA (wayN l (l.length + 1) x)) := by
  unfold pathB; rw [if_pos ⟨h1, by rw [h2]; rfl⟩]
theorem way_bare (l : List NodG) : ∀ (k : Nat) (x : Int), wayN (l.map NodG.bare) k x = wayN l k x ∧ topN (l.map NodG.bare) k x = topN l k x
  | 0, _ => ⟨rfl, rfl⟩
  | k + 1, x => by
    simp only [wayN, topN, nodOf_bare]
    cases nodOf l x with
    | none => exact ⟨rfl, rfl⟩
    | some n =>
      have := way_bare l k n.parent
      exact ⟨by simp only [Option.map_some]; rw [show n.bare.parent = n.parent from rfl, this.1]; rfl, this.2⟩
theorem pathB_alike {l d : List NodG} (h : d.map NodG.bare = l.map NodG.bare) (x : Int) : pathB d x = pathB l x := by
  have e : ∀ l : List NodG, pathB (l.map NodG.bare) x = pathB l x := fun l => by
    unfold pathB
    rw [tree_bare, nodOf_bare, Option.isSome_map, List.length_map, (way_bare l _ x).1, (way_bare l _ x).2]
  rw [← e d, h, e]

/-! ### by impl's parts -/
def partsN (d : List ByteArray) : List ByteArray := d.flatMap fun n => [n, ⟨#[47]⟩]
theorem partsN_snoc (d : List ByteArray) (n : ByteArray) : partsN (d ++ [n]) = partsN d ++ [n, ⟨#[47]⟩] := by simp [partsN]
theorem partsN_len (d : List ByteArray) : (partsN d).length = 2 * d.length := by
  induction d with
  | nil => rfl
  | cons a r ih => simp only [partsN, List.flatMap_cons, List.length_append, List.length_cons] at ih ⊢; simp only [List.length_nil]; omega
theorem cat_partsN (d : List ByteArray) : NumR.cat (partsN d).reverse = (pathA d).data.toList := by
  have h : ∀ r : List ByteArray, NumR.cat (partsN r.reverse).reverse = (pathR r).data.toList := by
    intro r
    induction r with
    | nil => rfl
    | cons n r ih =>
      rw [List.reverse_cons, partsN_snoc, List.reverse_append, NumR.cat_append, ih]
      simp [NumR.cat, pathR]
  have := h d.reverse
  rw [List.reverse_reverse] at this
  exact this
theorem cat_top (d : List ByteArray) : NumR.cat (partsN d ++ [(⟨#[126]⟩ : ByteArray)]).reverse = ((⟨#[126]⟩ : ByteArray) ++ pathA d).data.toList := by
  rw [List.reverse_append, NumR.cat_append, cat_partsN]
  simp [NumR.cat]
theorem bytes_back (t : ByteArray) : (⟨t.data.toList.toArray⟩ : ByteArray) = t := by simp
end Go.Proofs.YtmidembbanlleafDoor.OpR
namespace Go.Proofs.YtmidembbanlleafDoor.OpR
open Go.ChangeShapes Go.WideShapes Go.ChangeAt Go.RowKit
set_option linter.unusedVariables false

theorem Box1.also {w c : World} {g : Nat} {v : Value} {T : TypeId} (h : Box1 w c g v T) (o : Obj) : Box1 w (c.alloc o) g v T := h.step ((Below.refl _ _).alloc (Nat.le_refl _) _)
theorem Box1.put {w c : World} {g : Nat} {v : Value} {T : TypeId} (h : Box1 w c g v T) {k : Nat} (hk : w.heap.size ≤ k) (hne : k ≠ g) (p : Nat) (vs : List Value) : Box1 w (putsG c k p vs) g v T := ⟨puts_below hk vs p _ h.below, (puts_other (Ne.symm hne) vs p _).trans h.lies⟩
end Go.Proofs.YtmidembbanlleafDoor.OpR
namespace Go.Proofs.YtmidembbanlleafDoor.OpR
open Go.ChangeShapes Go.WideShapes Go.ChangeAt Go.RowKit
set_option linter.unusedVariables false

theorem insC_at {n : NodG} : ∀ {s : List NodG} {k : Nat}, k ≤ s.length → (∀ j (hj : j < s.length), j < k → leName s[j] n = true) → (∀ hk : k < s.length, leName s[k] n = false) → insC n s = s.take k ++ n :: s.drop k
  | [], k, hk, _, _ => by
    obtain rfl : k = 0 := by simpa using hk
    rfl
  | q :: r, 0, _, _, h2 => by
    have : leName q n = false := h2 (by simp)
    simp [insC, this]
  | q :: r, k + 1, hk, h1, h2 => by
    have hq : leName q n = true := h1 0 (by simp) (by omega)
    simp only [insC, hq, if_true, List.take_succ_cons, List.drop_succ_cons, List.cons_append]
    rw [insC_at (by simpa using hk) (fun j hj hjk => h1 (j + 1) (by simpa using hj) (by omega)) (fun hk => h2 (by simpa using hk))]
theorem kids_take {l : List NodG} {y : Int} {i : Nat} (h : i < l.length) : kidsTo y [] (l.take (i + 1)) = if l[i].parent = y then insC l[i] (kidsTo y [] (l.take i)) else kidsTo y [] (l.take i) := by
  rw [← List.take_append_getElem h, kidsTo_app]
  rfl
theorem kidsTo_mem {y : Int} {l : List NodG} {n : NodG} (h : n ∈ kidsTo y [] l) : n ∈ l := by
  have := (kidsTo_perm y [] l).mem_iff.1 h
  simp [kidsOf] at this
  exact this.1
theorem leq_of {a b : ByteArray} (h : keyLt b a = false) : (Op.bytesLess a.toList b.toList || a.toList == b.toList) = true := by
  cases e : keyLt a b with
  | true => rw [show Op.bytesLess a.toList b.toList = true from e]; rfl
  | false => rw [kl_tri e h]; simp
theorem leq_not {a b : ByteArray} (h : keyLt b a = true) : (Op.bytesLess a.toList b.toList || a.toList == b.toList) = false := by
  rw [show Op.bytesLess a.toList b.toList = false from kl_asymm h, Bool.false_or]
  refine beq_eq_false_iff_ne.2 fun e => ?_
  rw [toList_inj e, kl_irrefl] at h
  cases h
theorem slice_takeI (g cap : Nat) (xs : List Int) (n : Nat) (hn : xs.length = n) (hc : n ≤ cap) {k : Nat} (hk : k ≤ n) :
    ∃ (a1 : Addr) (c1 : Nat) (p : List Int), p = xs.take k ∧ (∀ W, (Instr.slice 58 (.slice (some ⟨g, 0, none⟩) n cap) none (some (.int .i64 (k : Int))) none).run Tryd.prog W = .ok (.slice (some a1) p.length c1) W) ∧ ∀ W, IntsAt W (some ⟨g, 0, none⟩) xs → ∀ j u, (ints p)[j]? = some u → W.cell? (a1.add j) = some u := by
  have ht : Tryd.prog.underlying 58 = some (.slice (Tryd.prog.elem 58)) := by kernel_rfl
  have hs : ∀ w, (sizeOf (Tryd.prog.elem 58)).run Tryd.prog w = .ok 1 w := fun _ => by kernel_rfl
  have e1 : (xs.take k).length = k := by rw [List.length_take]; omega
  refine ⟨⟨g, 0, none⟩, cap, _, rfl, fun W => ?_, fun W hW j u hu => ?_⟩
  · rw [e1, run_slice_h W 58 (some ⟨g, 0, none⟩) n cap ht .i64 (k : Int) (by omega) (by omega), hs]
    simp [Result.andThen, sliced, Addr.add]
  · refine hW.news j u ?_
    have : (ints xs).take k = ints (xs.take k) := by simp [ints, List.map_take]
    rw [← this, List.getElem?_take] at hu
    split at hu
    · exact hu
    · cases hu
theorem slice_dropI (g cap : Nat) (xs : List Int) (n : Nat) (hn : xs.length = n) (hc : n ≤ cap) {k : Nat} (hk : k ≤ n) :
    ∃ (a2 : Addr) (c2 : Nat) (p : List Int), p = xs.drop k ∧ (∀ W, (Instr.slice 58 (.slice (some ⟨g, 0, none⟩) n cap) (some (.int .i64 (k : Int))) none none).run Tryd.prog W = .ok (.slice (some a2) p.length c2) W) ∧ ∀ W, IntsAt W (some ⟨g, 0, none⟩) xs → ∀ j u, (ints p)[j]? = some u → W.cell? (a2.add j) = some u := by
  have ht : Tryd.prog.underlying 58 = some (.slice (Tryd.prog.elem 58)) := by kernel_rfl
  have hs : ∀ w, (sizeOf (Tryd.prog.elem 58)).run Tryd.prog w = .ok 1 w := fun _ => by kernel_rfl
  have e2 : (xs.drop k).length = n - k := by rw [List.length_drop, hn]
  refine ⟨if cap = k then ⟨g, 0, none⟩ else ⟨g, k, none⟩, cap - k, _, rfl, fun W => ?_, fun W hW j u hu => ?_⟩
  · rw [e2, run_slice_l W 58 (some ⟨g, 0, none⟩) n cap ht .i64 (k : Int) (by omega) (by omega), hs]
    by_cases h : cap = k
    · simp [Result.andThen, sliced, h]
    · simp [Result.andThen, sliced, h, Addr.add_lit]
  · have hj : j < (xs.drop k).length := by simpa [ints] using (List.getElem?_eq_some_iff.1 hu).1
    rw [e2] at hj
    rw [if_neg (by omega)]
    have h2 := hW.news (k + j) u (by
      have : (ints xs).drop k = ints (xs.drop k) := by simp [ints, List.map_drop]
      rw [← this, List.getElem?_drop] at hu
      exact hu)
    rw [Addr.add_lit] at h2 ⊢
    rwa [Nat.zero_add] at h2
/-- A variable of a tree and one of a node. -/
structure KidB (w c : World) (v : Value) (gn : Nat) (n : NodG) : Prop where
  box : Box1 w c w.heap.size v 29
  node : c.heap[gn]? = some (.cells #[.int .i64 n.id, .int .i64 n.parent, .string n.name, .slice n.pao n.props.length n.pcap] 53 (0, 0))
theorem KidB.lt {w c : World} {v : Value} {gn : Nat} {n : NodG} (h : KidB w c v gn n) : gn < c.heap.size := (Array.getElem?_eq_some_iff.1 h.node).1
theorem KidB.step {w c c' : World} {v : Value} {gn : Nat} {n : NodG} (h : KidB w c v gn n) (hb : Below c.heap.size c c') : KidB w c' v gn n := ⟨h.box.step hb, (hb.block gn h.lt).trans h.node⟩
theorem KidB.drew {w c : World} {v : Value} {gn : Nat} {n : NodG} (h : KidB w c v gn n) : KidB w c.drew v gn n := ⟨h.box.drew, h.node⟩
set_option maxRecDepth 100000 in
set_option maxHeartbeats 2000000 in
theorem sKids_any (l : List NodG) (ao : Option Addr) (cap : Nat) (y : Int) (w : World) (hA : NodesAt w ao l) (ht : TreeR l) :
    Calls Tryd.prog 25 #[.agg #[.slice ao l.length cap], .int .i64 y] w fun e w' => ∃ v, e = .returned v ∧ IntRow w' w.heap.size v ((kids l y).map NodG.id) ∧ Below w.heap.size w w' := by
  have hl : l.length ≤ 150 := ht.1
  have hat := fun x W (hW : Below w.heap.size w W) => sAt_any l ao cap x W (by unfold maxLen; omega) (hA.stays hW)
  have HT := hide hat
  have HA := hide hA
  have HR := hide ht
  have H1 := hide (Box1.start w (.slice ao l.length cap) 29)
  clear hA hat ht
  go_enter Tryd.func25, Tryd.ntmps25
  go_wp2
  have HE0 : Hid (IntRow ((w.alloc (.cells #[.slice ao l.length cap] 29)).alloc (.cells #[] 2)) w.heap.size (.slice (some ⟨w.heap.size + 1, 0, none⟩) 0 0) []) := ⟨⟨rfl, .inr ⟨w.heap.size + 1, 0, #[], rfl, by omega, by simpa using heap_alloc_new (w.alloc (.cells #[.slice ao l.length cap] 29)) (.cells #[] 2), Nat.le_refl _, by decide, rfl, rfl⟩⟩⟩
  have HB0 := hide (H1.out.step ((Below.refl _ _).alloc (Nat.le_refl _) (.cells #[] 2)))
  go_loopw [5, 6] (fun v i wr => ∃ (k g cp : Nat) (s : List NodG), k ≤ l.length ∧ i = .int .i64 k ∧ s = kidsTo y [] (l.take k) ∧ v = .slice (some ⟨g, 0, none⟩) s.length cp ∧ w.heap.size < g ∧ IntRow wr w.heap.size (.slice (some ⟨g, 0, none⟩) s.length cp) (s.map NodG.id) ∧ Box1 w wr w.heap.size (.slice ao l.length cap) 29) (fun _ i _ => l.length - (intOf i).toNat)
  case atStart => exact ⟨0, w.heap.size + 1, 0, [], by omega, rfl, rfl, rfl, by omega, HE0.out, HB0.out⟩
  case round =>
    obtain ⟨k, g, cp, s, hk, rfl, hs, rfl, hgg, hI, hbx⟩ := hrel
    have HI := hide hI
    have HB := hide hbx
    have HS := hide hs
    have hc := hbx.cell
    have hsl : s.length ≤ 150 := by
      have := (kidsTo_perm y [] (l.take k)).length_eq
      rw [hs, this]
      refine Nat.le_trans (List.length_filter_le _ _) ?_
      simp; omega
    clear hI hs
    by_cases h : k < l.length
    · obtain ⟨b, off, rfl, hlt, ho, _⟩ := HA.out k h
      obtain ⟨c0, c1, c2, c3⟩ := ho.block (w' := wr) (hbx.below.block b hlt)
      obtain ⟨n, hn⟩ : ∃ n, l[k] = n := ⟨_, rfl⟩
      rw [hn] at c0 c1 c2 c3
      have HN := hide hn
      have hi0 : (0 : Int) ≤ (k : Int) := by omega
      have hi1 : (k : Int) < (l.length : Int) := by omega
      have HX : Hid (KidB w (wr.alloc (.cells #[.int .i64 n.id, .int .i64 n.parent, .string n.name, .slice n.pao n.props.length n.pcap] 53)) (.slice (some ⟨b, off, none⟩) l.length cap) wr.heap.size n) := ⟨⟨HB.out.also _, heap_alloc_new wr _⟩⟩
      clear ho hbx hn
      by_cases hp : n.parent = y
      · have b0 : (n.parent == y) = true := beq_iff_eq.2 hp
        have b1 : (n.parent != y) = false := by rw [bne, b0]; rfl
        have HF : Hid (kidsTo y [] (l.take (k + 1)) = insC n s) := ⟨by rw [kids_take h, HN.out, if_pos hp, HS.out]⟩
        clear hp
        go_wp2_with fail
        obtain ⟨X, hX⟩ : ∃ X, wr.alloc (.cells #[.int .i64 n.id, .int .i64 n.parent, .string n.name, .slice n.pao n.props.length n.pcap] 53) = X := ⟨_, rfl⟩
        have HIX : Hid (IntRow X w.heap.size (.slice (some ⟨g, 0, none⟩) s.length cp) (s.map NodG.id)) := ⟨by rw [← hX]; exact HI.out.stays ((Below.refl _ _).alloc (Nat.le_refl _) _)⟩
        rw [hX] at HX ⊢
        obtain ⟨gn, hgn⟩ : ∃ gn, wr.heap.size = gn := ⟨_, rfl⟩
        have HXs : Hid (X.heap.size = gn + 1) := ⟨by rw [← hX, ← hgn]; simp⟩
        have HWg : Hid (w.heap.size < gn) := ⟨by rw [← hgn]; exact (Array.getElem?_eq_some_iff.1 HB.out.lies).1⟩
        rw [hgn] at HX ⊢
        clear hX hc c0 c1 c2 c3 hgn
        have HIXa : Hid (∀ W, Below X.heap.size X W → IntsAt W (some ⟨g, 0, none⟩) (s.map NodG.id)) := ⟨fun W hW => by
          obtain ⟨a', c', e2, _, hI'⟩ := (HIX.out.stays hW).at
          simp only [Value.slice.injEq] at e2
          obtain ⟨rfl, _, _⟩ := e2
          exact hI'⟩
        have HRoom : Hid (s.length ≤ cp) := ⟨by
          obtain ⟨a', c', e2, h2, _⟩ := HIX.out.at
          simp only [Value.slice.injEq] at e2
          obtain ⟨_, _, rfl⟩ := e2
          simpa using h2⟩
        go_loopw [8] (fun kv wc => ∃ q : Nat, q ≤ s.length ∧ kv = .int .i64 q ∧ (∀ j (hj : j < s.length), j < q → leName s[j] n = true) ∧ KidB w wc (.slice (some ⟨b, off, none⟩) l.length cap) gn n ∧ Below X.heap.size X wc) (fun kv _ => s.length - (intOf kv).toNat)
        case atStart => exact ⟨0, by omega, rfl, fun j hj h => by omega, HX.out, Below.refl _ _⟩
        case round =>
          obtain ⟨q, hq, rfl, hlow, hK, hbX⟩ := hrel
          have HLow := hide hlow
          have HK := hide hK
          have HBX := hide hbX
          have HQ := hide hq
          clear hlow hK hbX
          by_cases hqs : q < s.length
          · obtain ⟨m, hm⟩ : ∃ m, s[q] = m := ⟨_, rfl⟩
            have hml : m ∈ l := by
              have h1 : m ∈ s := by rw [← hm]; exact List.getElem_mem hqs
              rw [HS.out] at h1
              exact List.mem_of_mem_take (kidsTo_mem h1)
            obtain ⟨j, hj, ea, hjm⟩ : ∃ (j : Nat) (hj : j < l.length), atI l m.id = j ∧ l[j] = m := by
              have h1 := nodOf_mem HR.out.2.1 hml
              rcases at_cases l m.id with ⟨_, en⟩ | ⟨j, hj, ea, en, _⟩
              · rw [en] at h1; cases h1
              · rw [en] at h1
                exact ⟨j, hj, ea, Option.some.inj h1⟩
            have HEA := hide ea
            have hq0 : (0 : Int) ≤ (q : Int) := by omega
            have hq1 : (q : Int) < (s.length : Int) := by omega
            have hj0 : (0 : Int) ≤ (j : Int) := by omega
            have hj1 : (j : Int) < (l.length : Int) := by omega
            have hS : ∀ W, KidB w W (.slice (some ⟨b, off, none⟩) l.length cap) gn n → Below X.heap.size X W → W.cell? ⟨w.heap.size, 0, none⟩ = some (.slice (some ⟨b, off, none⟩) l.length cap) ∧ W.cell? ⟨g, q, none⟩ = some (.int .i64 m.id) ∧ W.cell? ⟨b, off + j * 4 + 2, none⟩ = some (.string m.name) ∧ W.cell? ⟨gn, 2, none⟩ = some (.string n.name) := fun W hW hbW => by
              obtain ⟨b', off', e', hlt', ho', _⟩ := HA.out j hj
              cases e'
              obtain ⟨_, _, d2, _⟩ := ho'.block (w' := W) (hW.box.below.block b hlt')
              rw [hjm] at d2
              obtain ⟨a', c', e2, _, hI'⟩ := (HIX.out.stays hbW).at
              simp only [Value.slice.injEq] at e2
              obtain ⟨rfl, _, _⟩ := e2
              obtain ⟨b2, off2, e3, _, h3⟩ := hI' q (by simpa using hqs)
              cases e3
              rw [Nat.zero_add] at h3
              refine ⟨hW.box.cell, ?_, d2, (cells4 hW.node).2.2.1⟩
              rw [h3]
              simp [hm]
            have HSx := hide hS
            have hd0 := hS _ HK.out.drew (HBX.out.drew)
            have HMq := hide hm
            clear hS hm hml ea hjm
            cases hle : keyLt n.name m.name
            · have hle' : (Op.bytesLess m.name.toList n.name.toList || m.name.toList == n.name.toList) = true := leq_of hle
              go_wp2_with fail
              go_region_held3 (fun W => W.cell? ⟨w.heap.size, 0, none⟩ = some (.slice (some ⟨b, off, none⟩) l.length cap) ∧ W.cell? ⟨g, q, none⟩ = some (.int .i64 m.id) ∧ W.cell? ⟨b, off + j * 4 + 2, none⟩ = some (.string m.name) ∧ W.cell? ⟨gn, 2, none⟩ = some (.string n.name)) (first | with_reducible exact hd0 | with_reducible exact hd1) (first | (go_at_call 26; refine (HT.out m.id _ HK.out.drew.box.below).mono ?_; rintro e w5 ⟨rfl, hb5⟩; rw [HEA.out]; have HK5 := hide (HK.out.drew.step hb5); have HBX5 := hide (HBX.out.drew.trans (hb5.mono HBX.out.size)); have hd1 := HSx.out _ HK5.out HBX5.out; clear hb5))
              go_wp2
              go_roundw
              case rel =>
                refine ⟨q + 1, by omega, by go_num, fun i hi hiq => ?_, HK5.out, HBX5.out⟩
                rcases Nat.lt_or_ge i q with h' | h'
                · exact HLow.out i hi h'
                · obtain rfl : i = q := by omega
                  rw [HMq.out]
                  simp [leName, hle]
              case measure => simp [intOf]; omega
            · have hle' : (Op.bytesLess m.name.toList n.name.toList || m.name.toList == n.name.toList) = false := leq_not hle
              have HUp : Hid (∀ hk : q < s.length, leName s[q] n = false) := ⟨fun _ => by rw [HMq.out]; simp [leName, hle]⟩
              clear hle
              go_wp2_with fail
              go_region_held3 (fun W => W.cell? ⟨w.heap.size, 0, none⟩ = some (.slice (some ⟨b, off, none⟩) l.length cap) ∧ W.cell? ⟨g, q, none⟩ = some (.int .i64 m.id) ∧ W.cell? ⟨b, off + j * 4 + 2, none⟩ = some (.string m.name) ∧ W.cell? ⟨gn, 2, none⟩ = some (.string n.name)) (first | with_reducible exact hd0 | with_reducible exact hd1) (first | (go_at_call 26; refine (HT.out m.id _ HK.out.drew.box.below).mono ?_; rintro e w5 ⟨rfl, hb5⟩; rw [HEA.out]; have HK5 := hide (HK.out.drew.step hb5); have HBX5 := hide (HBX.out.drew.trans (hb5.mono HBX.out.size)); have hd1 := HSx.out _ HK5.out HBX5.out; clear hb5))
              clear hd0 hd1 hle'
              obtain ⟨Z, hZ⟩ : ∃ Z, w5 = Z := ⟨_, rfl⟩
              have HKZ : Hid (KidB w Z (.slice (some ⟨b, off, none⟩) l.length cap) gn n) := ⟨by rw [← hZ]; exact HK5.out⟩
              have HBZ : Hid (Below X.heap.size X Z) := ⟨by rw [← hZ]; exact HBX5.out⟩
              rw [hZ]
              clear hZ
              have HIns : Hid ((insC n s).map NodG.id = (s.map NodG.id).take q ++ [n.id] ++ (s.map NodG.id).drop q) := ⟨by rw [insC_at HQ.out HLow.out HUp.out, List.map_append, List.map_cons, List.map_take, List.map_drop, List.append_assoc]; rfl⟩
              obtain ⟨ad1, c1, p, hp, hsl1, hPp⟩ := slice_takeI g cp (s.map NodG.id) s.length (by simp) HRoom.out (k := q) HQ.out
              obtain ⟨ad2, c2, r, hr, hsl2, hPr⟩ := slice_dropI g cp (s.map NodG.id) s.length (by simp) HRoom.out (k := q) HQ.out
              have HP := hide hp
              have HRr := hide hr
              have HPp := hide hPp
              have HPr := hide hPr
              have HLp : Hid (p.length ≤ 150 ∧ r.length ≤ 150) := ⟨by rw [hp, hr]; simp; omega⟩
              have HIZ := hide (HIXa.out Z HBZ.out)
              have HEm : Hid (IntRow (Z.alloc (.cells #[] 2)) Z.heap.size (.slice (some ⟨Z.heap.size, 0, none⟩) 0 0) []) := ⟨⟨rfl, .inr ⟨Z.heap.size, 0, #[], rfl, Nat.le_refl _, heap_alloc_new Z _, Nat.le_refl _, by decide, rfl, rfl⟩⟩⟩
              have hZlt := HKZ.out.lt
              have hZw := HKZ.out.box.below.size
              clear hp hr hPp hPr
              go_wp2_with (first | (at_builtin; refine wpList_append_I rfl _ _ rfl Z.heap.size (.slice (some ⟨Z.heap.size, 0, none⟩) 0 0) [] rfl HEm.out ad1 p c1 rfl (HPp.out _ (HIZ.out.stays ((Below.refl _ _).alloc (Nat.le_refl _) _))) (by have := HLp.out; simp; omega) (by simp) ?_; intro v1 y1 ho1 hg1; simp only [List.nil_append] at ho1; have HO1 := hide ho1; have HY1 : Hid (Below Z.heap.size Z y1) := ⟨((Below.refl _ _).alloc (Nat.le_refl _) _).grown hg1 (by simp) (fun j hj => by simp [Value.ownBlock] at hj; omega)⟩; have HK1 := hide (HKZ.out.step HY1.out); obtain ⟨d0, d1, d2, d3, _⟩ := cells4 HK1.out.node; clear ho1 hg1 HEm hsl1) | (at_builtin; refine wpList_append_I rfl _ _ rfl Z.heap.size v1 p rfl (HO1.out.stays ((Below.refl _ _).alloc (Nat.le_refl _) _)) ⟨y1.heap.size, 0, none⟩ [n.id] 1 rfl (newsI y1 n.id 2) (by have := HLp.out; simp; omega) (by have := HY1.out.size; simp; omega) ?_; intro v2 y2 ho2 hg2; have HO2 := hide ho2; have HY2 : Hid (Below Z.heap.size Z y2) := ⟨(HY1.out.alloc HY1.out.size _).grown hg2 (by have := HY1.out.size; simp; omega) (fun j hj => (HO1.out.lt j hj).1)⟩; clear ho2 hg2 d0 d1 d2 d3) | (at_builtin; refine wpList_append_I rfl _ _ rfl Z.heap.size v2 (p ++ [n.id]) rfl HO2.out ad2 r c2 rfl (HPr.out _ (HIZ.out.stays HY2.out)) (by have := HLp.out; simp; omega) HY2.out.size ?_; intro v3 y3 ho3 hg3; have HO3 := hide ho3; have HY3 : Hid (Below Z.heap.size Z y3) := ⟨HY2.out.grown hg3 HY2.out.size (fun j hj => (HO2.out.lt j hj).1)⟩; clear ho3 hg3))
              have HLs : Hid ((insC n s).map NodG.id = p ++ [n.id] ++ r) := ⟨by rw [HIns.out, HP.out, HRr.out]⟩
              have hO3 : IntRow y3 Z.heap.size v3 ((insC n s).map NodG.id) := by rw [HLs.out]; exact HO3.out
              obtain ⟨g3, cp3, hv3, hg3⟩ : ∃ g3 cp3, v3 = .slice (some ⟨g3, 0, none⟩) (insC n s).length cp3 ∧ Z.heap.size ≤ g3 := by
                rcases hO3.2 with ⟨_, hn0⟩ | ⟨g', cap', cur, e, hb', _⟩
                · have := congrArg List.length HLs.out
                  rw [hn0] at this
                  simp at this
                · exact ⟨g', cap', by rw [e]; simp, hb'⟩
              subst hv3
              go_roundw
              case rel => exact ⟨k + 1, g3, cp3, insC n s, by omega, by go_num, HF.out.symm, rfl, by have := HWg.out; omega, owns_lower hO3 hZw, HKZ.out.box.step HY3.out⟩
              case measure => simp [intOf]; omega
          · obtain rfl : q = s.length := by omega
            have HUp : Hid (∀ hk : s.length < s.length, leName s[s.length] n = false) := ⟨fun hk => absurd hk (by omega)⟩
            go_wp2_with fail
            go_region
            obtain ⟨Z, hZ⟩ : ∃ Z, wr.drew = Z := ⟨_, rfl⟩
            have HKZ : Hid (KidB w Z (.slice (some ⟨b, off, none⟩) l.length cap) gn n) := ⟨by rw [← hZ]; exact HK.out.drew⟩
            have HBZ : Hid (Below X.heap.size X Z) := ⟨by rw [← hZ]; exact HBX.out.drew⟩
            rw [hZ]
            clear hZ
            have HIns : Hid ((insC n s).map NodG.id = (s.map NodG.id).take s.length ++ [n.id] ++ (s.map NodG.id).drop s.length) := ⟨by rw [insC_at HQ.out HLow.out HUp.out, List.map_append, List.map_cons, List.map_take, List.map_drop, List.append_assoc]; rfl⟩
            obtain ⟨ad1, c1, p, hp, hsl1, hPp⟩ := slice_takeI g cp (s.map NodG.id) s.length (by simp) HRoom.out (k := s.length) HQ.out
            obtain ⟨ad2, c2, r, hr, hsl2, hPr⟩ := slice_dropI g cp (s.map NodG.id) s.length (by simp) HRoom.out (k := s.length) HQ.out
            have HP := hide hp
            have HRr := hide hr
            have HPp := hide hPp
            have HPr := hide hPr
            have HLp : Hid (p.length ≤ 150 ∧ r.length ≤ 150) := ⟨by rw [hp, hr]; simp; omega⟩
            have HIZ := hide (HIXa.out Z HBZ.out)
            have HEm : Hid (IntRow (Z.alloc (.cells #[] 2)) Z.heap.size (.slice (some ⟨Z.heap.size, 0, none⟩) 0 0) []) := ⟨⟨rfl, .inr ⟨Z.heap.size, 0, #[], rfl, Nat.le_refl _, heap_alloc_new Z _, Nat.le_refl _, by decide, rfl, rfl⟩⟩⟩
            have hZlt := HKZ.out.lt
            have hZw := HKZ.out.box.below.size
            clear hp hr hPp hPr
            go_wp2_with (first | (at_builtin; refine wpList_append_I rfl _ _ rfl Z.heap.size (.slice (some ⟨Z.heap.size, 0, none⟩) 0 0) [] rfl HEm.out ad1 p c1 rfl (HPp.out _ (HIZ.out.stays ((Below.refl _ _).alloc (Nat.le_refl _) _))) (by have := HLp.out; simp; omega) (by simp) ?_; intro v1 y1 ho1 hg1; simp only [List.nil_append] at ho1; have HO1 := hide ho1; have HY1 : Hid (Below Z.heap.size Z y1) := ⟨((Below.refl _ _).alloc (Nat.le_refl _) _).grown hg1 (by simp) (fun j hj => by simp [Value.ownBlock] at hj; omega)⟩; have HK1 := hide (HKZ.out.step HY1.out); obtain ⟨d0, d1, d2, d3, _⟩ := cells4 HK1.out.node; clear ho1 hg1 HEm hsl1) | (at_builtin; refine wpList_append_I rfl _ _ rfl Z.heap.size v1 p rfl (HO1.out.stays ((Below.refl _ _).alloc (Nat.le_refl _) _)) ⟨y1.heap.size, 0, none⟩ [n.id] 1 rfl (newsI y1 n.id 2) (by have := HLp.out; simp; omega) (by have := HY1.out.size; simp; omega) ?_; intro v2 y2 ho2 hg2; have HO2 := hide ho2; have HY2 : Hid (Below Z.heap.size Z y2) := ⟨(HY1.out.alloc HY1.out.size _).grown hg2 (by have := HY1.out.size; simp; omega) (fun j hj => (HO1.out.lt j hj).1)⟩; clear ho2 hg2 d0 d1 d2 d3) | (at_builtin; refine wpList_append_I rfl _ _ rfl Z.heap.size v2 (p ++ [n.id]) rfl HO2.out ad2 r c2 rfl (HPr.out _ (HIZ.out.stays HY2.out)) (by have := HLp.out; simp; omega) HY2.out.size ?_; intro v3 y3 ho3 hg3; have HO3 := hide ho3; have HY3 : Hid (Below Z.heap.size Z y3) := ⟨HY2.out.grown hg3 HY2.out.size (fun j hj => (HO2.out.lt j hj).1)⟩; clear ho3 hg3))
            have HLs : Hid ((insC n s).map NodG.id = p ++ [n.id] ++ r) := ⟨by rw [HIns.out, HP.out, HRr.out]⟩
            have hO3 : IntRow y3 Z.heap.size v3 ((insC n s).map NodG.id) := by rw [HLs.out]; exact HO3.out
            obtain ⟨g3, cp3, hv3, hg3⟩ : ∃ g3 cp3, v3 = .slice (some ⟨g3, 0, none⟩) (insC n s).length cp3 ∧ Z.heap.size ≤ g3 := by
              rcases hO3.2 with ⟨_, hn0⟩ | ⟨g', cap', cur, e, hb', _⟩
              · have := congrArg List.length HLs.out
                rw [hn0] at this
                simp at this
              · exact ⟨g', cap', by rw [e]; simp, hb'⟩
            subst hv3
            go_roundw
            case rel => exact ⟨k + 1, g3, cp3, insC n s, by omega, by go_num, HF.out.symm, rfl, by have := HWg.out; omega, owns_lower hO3 hZw, HKZ.out.box.step HY3.out⟩
            case measure => simp [intOf]; omega
      · have b0 : (n.parent == y) = false := beq_eq_false_iff_ne.2 hp
        have b1 : (n.parent != y) = true := by rw [bne, b0]; rfl
        have HF : Hid (kidsTo y [] (l.take (k + 1)) = s) := ⟨by rw [kids_take h, HN.out, if_neg hp, HS.out]⟩
        clear hp
        go_wp2
        go_roundw
        case rel => exact ⟨k + 1, g, cp, s, by omega, by go_num, HF.out.symm, rfl, hgg, HI.out.stays ((Below.refl _ _).alloc (Nat.le_refl _) _), HB.out.also _⟩
        case measure => simp [intOf]; omega
    · obtain rfl : k = l.length := by omega
      have HF : Hid (kids l y = s) := ⟨by rw [HS.out, List.take_length]; rfl⟩
      go_wp2
      go_ret
      exact ⟨_, rfl, by rw [HF.out]; exact HI.out, HB.out.below⟩
end Go.Proofs.YtmidembbanlleafDoor.OpR
