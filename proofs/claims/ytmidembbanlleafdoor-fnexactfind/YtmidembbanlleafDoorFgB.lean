/- Rows of texts that the call owns, and what slices.Reverse makes of one; impl.joined of none. A text cut at each slash. Plain mathematics. Proves what spec.l01Split makes of a text: its pieces between slashes. Proves what strings.Count, Index, Split and CutPrefix tell of one sign. -/
import Derived.Test.YtmidembbanlleafDoorJoin
import Derived.Test.YtmidembbanlleafDoorRowG
import Derived.Lib.Bytealg
import Derived.Test.YtmidembbanlleafDoorRowS
namespace Go.Proofs.YtmidembbanlleafDoor.OpR
open Go.ChangeShapes Go.WideShapes Go.ChangeAt Go.RowKit
set_option linter.unusedVariables false

theorem infoStr : (Tryd.prog.info? 9).map (fun i => (i.zero, i.size, i.bytes)) = some (some (.string ⟨#[]⟩), 1, 16) := by kernel_rfl
def txts (ts : List ByteArray) : List Value := ts.map .string
theorem txts_one (ts : List ByteArray) : ∀ u ∈ txts ts, u.oneCell' = true := by
  intro u hu
  obtain ⟨t, _, rfl⟩ := List.mem_map.1 hu
  rfl
/-- A row of texts that the call owns. -/
def TxtRow (w : World) (base : Nat) (v : Value) (ts : List ByteArray) : Prop := w.ownsRow base 9 1 v ts.length (txts ts)
theorem TxtRow.at {w : World} {base : Nat} {v : Value} {ts : List ByteArray} (h : TxtRow w base v ts) (hne : ts ≠ []) : ∃ g cap, v = .slice (some ⟨g, 0, none⟩) ts.length cap ∧ base ≤ g ∧ g < w.heap.size ∧ ts.length ≤ cap ∧ ∀ j (hj : j < ts.length), w.cell? ⟨g, j, none⟩ = some (.string ts[j]) := by
  have h0 := h
  rcases h.2 with ⟨e, hn⟩ | ⟨g, cap, cur, rfl, hb, hg, hl, hm, hs, ht⟩
  · exact absurd (List.eq_nil_of_length_eq_zero hn) hne
  · refine ⟨g, cap, rfl, hb, (Array.getElem?_eq_some_iff.1 hg).1, hl, fun j hj => ?_⟩
    have hc := h0.cells rfl j (.string ts[j]) (by simp [txts, hj])
    rwa [Addr.add_lit, Nat.zero_add] at hc
theorem TxtRow.stays {w w' : World} {base : Nat} {v : Value} {ts : List ByteArray} (h : TxtRow w base v ts) (hb : Below w.heap.size w w') : TxtRow w' base v ts :=
  h.kept (row := none) ⟨hb.os, hb.tape, hb.output, hb.size, fun k hk _ => hb.block k hk⟩ (by cases hv : v.ownBlock <;> simp)
theorem TxtRow.store {w : World} {base g cap : Nat} {ts : List ByteArray} (h : TxtRow w base (.slice (some ⟨g, 0, none⟩) ts.length cap) ts) (p : Nat) (t : ByteArray) :
    TxtRow (w.setCell ⟨g, p, none⟩ (.string t)) base (.slice (some ⟨g, 0, none⟩) (ts.set p t).length cap) (ts.set p t) := by
  unfold TxtRow at h ⊢
  rw [List.length_set]
  rcases h.2 with ⟨e, _⟩ | ⟨g', cap', cur, e, hb, hg, h1, h2, h3, h4⟩
  · cases e
  · simp only [Value.slice.injEq, Option.some.injEq, Addr.mk.injEq] at e
    obtain ⟨⟨rfl, _⟩, _, rfl⟩ := e
    refine ⟨by simp [txts], .inr ⟨g, cap, (cur.toList.set p (.string t)).toArray, rfl, hb, ?_, h1, h2, by simp [h3], ?_⟩⟩
    · have := puts_block (w := w) (g := g) (T := 9) [.string t] cur.toList p w (by simpa using hg)
      exact this
    · rw [List.take_set, h4]
      simp [txts, List.map_set]
theorem TxtRow.frozen {w : World} {base g n cap : Nat} {ts : List ByteArray} (h : TxtRow w base (.slice (some ⟨g, 0, none⟩) n cap) ts) (p : Nat) : w.frozen? ⟨g, p, none⟩ = false := by
  rcases h.2 with ⟨e, _⟩ | ⟨g', cap', cur, e, hb, hg, h1, h2, h3, h4⟩
  · cases e
  · simp only [Value.slice.injEq, Option.some.injEq, Addr.mk.injEq] at e
    obtain ⟨⟨rfl, _⟩, _, rfl⟩ := e
    simp [World.frozen?, hg]
theorem TxtRow.cell {w : World} {base g n cap : Nat} {ts : List ByteArray} (h : TxtRow w base (.slice (some ⟨g, 0, none⟩) n cap) ts) : g < w.heap.size ∧ ∀ j (hj : j < ts.length), w.cell? ⟨g, j, none⟩ = some (.string ts[j]) := by
  have h0 := h
  rcases h.2 with ⟨e, _⟩ | ⟨g', cap', cur, e, hb, hg, h1, h2, h3, h4⟩
  · cases e
  · simp only [Value.slice.injEq, Option.some.injEq, Addr.mk.injEq] at e
    obtain ⟨⟨rfl, _⟩, _, rfl⟩ := e
    refine ⟨(Array.getElem?_eq_some_iff.1 hg).1, fun j hj => ?_⟩
    have hc := h0.cells rfl j (.string ts[j]) (by simp [txts, hj])
    rwa [Addr.add_lit, Nat.zero_add] at hc
theorem txt_grown_set {w c : World} {g : Nat} (h : w.grownBy c (some g)) (p : Nat) (u : Value) : w.grownBy (c.setCell ⟨g, p, none⟩ u) (some g) :=
  ⟨h.os, h.tape, h.output, Nat.le_trans h.size (by simp [World.setCell]), fun k hk hne => (Below.heap_setCell _ _ _ _ (fun e => hne (by rw [e]))).trans (h.block k hk hne)⟩
theorem wpList_append_T {ops : Array Oper} {rest : List Oper} {o : Oper} {a : Act} {w : World} {Q : Exit → Act → World → Prop} (hgd : o.guard = none) (s x : Operand)
    (ho : o.op = .call { callee := .builtin .append, args := #[s, x], argTypes := #[36, 36] })
    (base : Nat) (v : Value) (out : List ByteArray) (hs : a.eval s = v) (hown : TxtRow w base v out)
    (ad : Addr) (m : List ByteArray) (c : Nat) (hx : a.eval x = .slice (some ad) m.length c) (hn : ∀ j u, (txts m)[j]? = some u → w.cell? (ad.add j) = some u)
    (hlen : out.length + m.length ≤ 4000000) (hbase : base ≤ w.heap.size)
    (h : ∀ v' w', TxtRow w' base v' (out ++ m) → w.grownBy w' v.ownBlock → wpList Tryd.prog ops Q rest (a.put o.dst v') w') : wpList Tryd.prog ops Q (o :: rest) a w := by
  obtain ⟨i0, hi, hzz⟩ := Option.map_eq_some_iff.1 infoStr
  simp only [Prod.mk.injEq] at hzz
  obtain ⟨hz0, hz1, hz2⟩ := hzz
  have hm : maxLen = 9223372036854775807 := rfl
  refine wpList_append_own _ hgd s x 36 ho base 9 i0 _ 1 16 Tryd.underlying36 hi hz0 hz1 hz2 rfl (by decide) v out.length (txts out) hs hown ad m.length c (txts m) hx (by simp [txts]) hn (txts_one m) (by omega) (by omega) hbase (fun v' w' h1 h2 h3 => h v' w' ?_ h2)
  unfold TxtRow
  rw [List.length_append, show txts (out ++ m) = txts out ++ txts m by simp [txts]]
  exact h1
theorem news2 (x : World) (t0 t1 : ByteArray) (T : TypeId) : ∀ j u, (txts [t0, t1])[j]? = some u → (x.alloc (.cells #[.string t0, .string t1] T)).cell? ((⟨x.heap.size, 0, none⟩ : Addr).add j) = some u := by
  intro j u hu
  rw [Addr.add_lit, Nat.zero_add, World.cell?_alloc_at _ _ _ _ rfl]
  simpa [txts] using hu
theorem news1 (x : World) (t0 : ByteArray) (T : TypeId) : ∀ j u, (txts [t0])[j]? = some u → (x.alloc (.cells #[.string t0] T)).cell? ((⟨x.heap.size, 0, none⟩ : Addr).add j) = some u := by
  intro j u hu
  rw [Addr.add_lit, Nat.zero_add, World.cell?_alloc_at _ _ _ _ rfl]
  simpa [txts] using hu
/-- What has been turned round when i pairs have been exchanged. -/
def TurnedTo (ts xs : List ByteArray) (i : Nat) : Prop := xs.length = ts.length ∧ ∀ k, k < ts.length → xs[k]? = if k < i ∨ ts.length ≤ k + i then ts[ts.length - 1 - k]? else ts[k]?
theorem turned_start (ts : List ByteArray) : TurnedTo ts ts 0 := ⟨rfl, fun k hk => by rw [if_neg (by omega)]⟩
theorem turned_done {ts xs : List ByteArray} {i : Nat} (h : TurnedTo ts xs i) (hi : ts.length ≤ 2 * i + 1) : xs = ts.reverse := by
  apply List.ext_getElem?
  intro k
  by_cases hk : k < ts.length
  · rw [h.2 k hk, List.getElem?_reverse hk]
    split
    · rfl
    · rw [show ts.length - 1 - k = k by omega]
  · rw [List.getElem?_eq_none (by rw [h.1]; omega), List.getElem?_eq_none (by simp; omega)]
theorem turned_step {ts xs : List ByteArray} {i j : Nat} (h : TurnedTo ts xs i) (hij : i + j + 1 = ts.length) (hlt : i < j) (hi : i < xs.length) (hj : j < xs.length) : TurnedTo ts ((xs.set i xs[j]).set j xs[i]) (i + 1) := by
  have hxi : xs[i]? = ts[i]? := by rw [h.2 i (by omega), if_neg (by omega)]
  have hxj : xs[j]? = ts[j]? := by rw [h.2 j (by omega), if_neg (by omega)]
  refine ⟨by simp [h.1], fun k hk => ?_⟩
  rw [List.getElem?_set, List.length_set]
  by_cases e1 : j = k
  · subst e1
    rw [if_pos rfl, if_pos hj, if_pos (by omega), show ts.length - 1 - j = i by omega, ← hxi, List.getElem?_eq_getElem hi]
  · rw [if_neg e1, List.getElem?_set]
    by_cases e2 : i = k
    · subst e2
      rw [if_pos rfl, if_pos hi, if_pos (by omega), show ts.length - 1 - i = j by omega, ← hxj, List.getElem?_eq_getElem hj]
    · rw [if_neg e2, h.2 k hk]
      by_cases e3 : k < i ∨ ts.length ≤ k + i
      · rw [if_pos e3, if_pos (by omega)]
      · rw [if_neg e3, if_neg (by omega)]
end Go.Proofs.YtmidembbanlleafDoor.OpR
namespace Go.Proofs.YtmidembbanlleafDoor.OpR
set_option linter.unusedVariables false

/-- A sign put ahead of the first piece. -/
def pushC (c : UInt8) : List (List UInt8) → List (List UInt8)
  | [] => [[c]]
  | h :: t => (c :: h) :: t
/-- The pieces of a text between slashes. -/
def spl : List UInt8 → List (List UInt8)
  | [] => [[]]
  | c :: r => if c = 47 then [] :: spl r else pushC c (spl r)
theorem spl_len : ∀ l : List UInt8, (spl l).length = l.count 47 + 1
  | [] => rfl
  | c :: r => by
    have ih := spl_len r
    by_cases h : c = 47
    · simp [spl, h, ih]
    · have : (pushC c (spl r)).length = (spl r).length := by
        cases e : spl r with
        | nil => rw [e] at ih; simp at ih
        | cons a t => rfl
      simp [spl, h, this, ih]
theorem spl_none : ∀ {l : List UInt8}, (∀ c ∈ l, ¬ c = 47) → spl l = [l]
  | [], _ => rfl
  | c :: r, h => by
    rw [spl, if_neg (h c (by simp)), spl_none (fun x hx => h x (by simp [hx]))]
    rfl
theorem spl_at : ∀ {l : List UInt8} {m : Nat}, (∀ j (h : j < l.length), j < m → ¬ l[j] = 47) → (hm : m < l.length) → l[m] = 47 → spl l = l.take m :: spl (l.drop (m + 1))
  | c :: r, 0, _, _, he => by
    have : c = 47 := he
    simp [spl, this]
  | c :: r, m + 1, h, hm, he => by
    have h0 : ¬ c = 47 := h 0 (by simp) (by omega)
    have ih := spl_at (l := r) (m := m) (fun j hj hl => h (j + 1) (by simpa using hj) (by omega)) (by simpa using hm) (by simpa using he)
    rw [spl, if_neg h0, ih]
    rfl
def bsL (l : List UInt8) : ByteArray := ⟨l.toArray⟩
theorem bsL_data (t : ByteArray) : bsL t.data.toList = t := by
  obtain ⟨⟨l⟩⟩ := t
  rfl
/-- The names of a path. -/
def namesL (l : List UInt8) : List ByteArray := (spl l).map bsL
theorem namesL_none {l : List UInt8} (h : ∀ c ∈ l, ¬ c = 47) : namesL l = [bsL l] := by unfold namesL; rw [spl_none h]; rfl
theorem namesL_at {l : List UInt8} {m : Nat} (h : ∀ j (h : j < l.length), j < m → ¬ l[j] = 47) (hm : m < l.length) (he : l[m] = 47) : namesL l = bsL (l.take m) :: namesL (l.drop (m + 1)) := by unfold namesL; rw [spl_at h hm he]; rfl
theorem namesL_len (l : List UInt8) : (namesL l).length = l.count 47 + 1 := by unfold namesL; rw [List.length_map, spl_len]
theorem extract_bs (t : ByteArray) (a b : Nat) : t.extract a b = bsL ((t.data.toList.drop a).take (b - a)) := by
  rw [← Lib.extract_data, bsL_data]
theorem extract_end (t : ByteArray) (a : Nat) : t.extract a t.size = bsL (t.data.toList.drop a) := by
  rw [extract_bs, List.take_of_length_le]
  rw [List.length_drop, ← Lib.size_eq]
  exact Nat.le_refl _
theorem data_at (t : ByteArray) (i : Nat) (h : i < t.size) (h2 : i < t.data.toList.length) : t.data.toList[i] = t[i] := by
  obtain ⟨⟨l⟩⟩ := t
  rfl
theorem slash_yes {c : UInt8} (h : c = 47) : (((c.toNat : Nat) : Int) == 47) = true := by subst h; rfl
theorem slash_no {c : UInt8} (h : ¬ c = 47) : (((c.toNat : Nat) : Int) == 47) = false := by
  rw [beq_eq_false_iff_ne]
  intro e
  refine h (UInt8.toNat_inj.1 ?_)
  have : (47 : UInt8).toNat = 47 := rfl
  omega
/-- Where the first slash is. -/
theorem index_none : ∀ {l : List UInt8}, Lib.indexByte l 47 < 0 → ∀ c ∈ l, ¬ c = 47
  | [], _, c, hc => absurd hc (by simp)
  | b :: l, h, c, hc => by
    have hge := Lib.indexByte_ge l 47
    rw [Lib.indexByte] at h
    by_cases hb : b = 47
    · simp [hb] at h
    · simp only [beq_iff_eq, hb, if_false] at h
      by_cases h1 : Lib.indexByte l 47 = -1
      · rcases List.mem_cons.1 hc with rfl | hc
        · exact hb
        · exact index_none (by omega) c hc
      · simp only [h1, if_false] at h
        omega
theorem index_some : ∀ {l : List UInt8} {m : Nat}, Lib.indexByte l 47 = (m : Int) → ∃ h : m < l.length, l[m] = 47 ∧ ∀ j (hj : j < l.length), j < m → ¬ l[j] = 47
  | [], m, h => by simp [Lib.indexByte] at h
  | b :: l, m, h => by
    have hge := Lib.indexByte_ge l 47
    rw [Lib.indexByte] at h
    by_cases hb : b = 47
    · simp only [hb, beq_self_eq_true, if_true] at h
      obtain rfl : m = 0 := by omega
      exact ⟨by simp, hb, fun j hj hl => by omega⟩
    · simp only [beq_iff_eq, hb, if_false] at h
      by_cases h1 : Lib.indexByte l 47 = -1
      · simp only [h1, if_true] at h
        omega
      · simp only [h1, if_false] at h
        obtain ⟨p, rfl⟩ : ∃ p, m = p + 1 := ⟨m - 1, by omega⟩
        obtain ⟨hp, e, hl⟩ := index_some (l := l) (m := p) (by omega)
        refine ⟨by simpa using hp, by simpa using e, fun j hj hjl => ?_⟩
        cases j with
        | zero => simpa using hb
        | succ j => simpa using hl j (by simpa using hj) (by omega)
theorem count_zero {l : List UInt8} (h : l.count 47 = 0) : ∀ c ∈ l, ¬ c = 47 := fun c hc e => by
  subst e
  have := List.count_pos_iff.2 hc
  omega
theorem count_index {l : List UInt8} (h : 0 < l.count 47) : ¬ Lib.indexByte l 47 < 0 := fun hn => by
  have := List.count_pos_iff.1 h
  exact index_none hn 47 this rfl
theorem count_at {l : List UInt8} {m : Nat} (h : m < l.length) (he : l[m] = 47) (hl : ∀ j (hj : j < l.length), j < m → ¬ l[j] = 47) : l.count 47 = (l.drop (m + 1)).count 47 + 1 := by
  have h1 := namesL_len l
  have h2 := namesL_len (l.drop (m + 1))
  rw [namesL_at hl h he, List.length_cons] at h1
  omega
end Go.Proofs.YtmidembbanlleafDoor.OpR
namespace Go.Proofs.YtmidembbanlleafDoor.OpR
open Go.ChangeShapes Go.WideShapes Go.ChangeAt Go.RowKit
set_option linter.unusedVariables false

theorem empty_txt (X : World) (base : Nat) (hb : base ≤ X.heap.size) : TxtRow (X.alloc (.cells #[] 9)) base (.slice (some ⟨X.heap.size, 0, none⟩) 0 0) [] :=
  World.ownsRow_made X #[] 0 hb (by decide) rfl
set_option maxRecDepth 100000 in
set_option maxHeartbeats 1000000 in
theorem sSplit_any (t : ByteArray) (w : World) (ht : t.size ≤ 1048576) :
    Calls Tryd.prog 12 #[.string t, .int .u8 47] w fun e w' => ∃ v, e = .returned v ∧ TxtRow w' w.heap.size v (namesL t.data.toList) ∧ Below w.heap.size w w' := by
  have hL : t.data.toList.length = t.size := (Lib.size_eq t).symm
  have HL := hide hL
  have HE := hide (empty_txt w w.heap.size (Nat.le_refl _))
  clear hL
  go_enter Tryd.func12, Tryd.ntmps12
  go_wp2
  go_loopw [5, 6, 7] (fun vo vf vi wr => ∃ (fr i : Nat) (out : List ByteArray), fr ≤ i ∧ i ≤ t.size ∧ vf = .int .i64 fr ∧ vi = .int .i64 i ∧ out.length ≤ fr ∧ TxtRow wr w.heap.size vo out ∧ Hid (out ++ namesL (t.data.toList.drop fr) = namesL t.data.toList) ∧ Hid (∀ j (h : j < t.size), fr ≤ j → j < i → ¬ t[j] = 47) ∧ Below w.heap.size w wr) (fun _ _ vi _ => t.size - (intOf vi).toNat)
  case atStart => exact ⟨0, 0, [], Nat.le_refl _, Nat.zero_le _, rfl, rfl, Nat.le_refl _, HE.out, ⟨rfl⟩, ⟨fun j h h1 h2 => by omega⟩, (Below.refl _ _).alloc (Nat.le_refl _) _⟩
  case round =>
    obtain ⟨fr, i, out, hfi, hi, rfl, rfl, hol, hO, HM, HN, hb⟩ := hrel
    have HO := hide hO
    have hbs := hb.size
    clear hO
    have hi0 : (0 : Int) ≤ (i : Int) := by omega
    have hf0 : (0 : Int) ≤ (fr : Int) := by omega
    by_cases h : i < t.size
    · have hi1 : (i : Int) < (t.size : Int) := by omega
      by_cases he : t[i] = 47
      · have hs := slash_yes he
        have hN2 : namesL (t.data.toList.drop fr) = t.extract fr i :: namesL (t.data.toList.drop (i + 1)) := by
          have hm : i - fr < (t.data.toList.drop fr).length := by rw [List.length_drop, HL.out]; omega
          rw [namesL_at (m := i - fr) (fun j hj hl => by
            rw [List.getElem_drop, data_at t (fr + j) (by omega)]
            exact HN.out (fr + j) (by omega) (by omega) (by omega)) hm (by
            rw [List.getElem_drop]
            have : fr + (i - fr) = i := by omega
            simp only [this]
            rw [data_at t i h]; exact he), List.drop_drop, extract_bs]
          rw [show fr + (i - fr + 1) = i + 1 by omega]
        have HM2 : Hid ((out ++ [t.extract fr i]) ++ namesL (t.data.toList.drop (i + 1)) = namesL t.data.toList) := ⟨by rw [← HM.out, hN2]; simp⟩
        clear he hN2
        go_wp2_with (at_builtin; refine wpList_append_T rfl _ _ rfl w.heap.size _ out rfl (HO.out.alloc _) ⟨wr.heap.size, 0, none⟩ [t.extract fr i] 1 rfl (news1 wr _ _) (by simp; omega) (by simp; omega) ?_)
        intro v1 y1 hO1 hg1
        have hB3 : Below w.heap.size w y1 := (hb.alloc hbs _).grown hg1 (by simp; omega) (fun j hj => (World.ownsRow.lt HO.out j hj).1)
        have HO3 := hide hO1
        clear hO1 hg1
        go_wp2
        go_roundw
        case rel => exact ⟨i + 1, i + 1, out ++ [t.extract fr i], Nat.le_refl _, by omega, by go_num, by go_num, by simp; omega, HO3.out, HM2, ⟨fun j h h1 h2 => by omega⟩, hB3⟩
        case measure => simp [intOf]; omega
      · have hs := slash_no he
        have HN2 : Hid (∀ j (h : j < t.size), fr ≤ j → j < i + 1 → ¬ t[j] = 47) := ⟨fun j hj h1 h2 => by
          rcases Nat.lt_or_ge j i with h' | h'
          · exact HN.out j hj h1 h'
          · obtain rfl : j = i := by omega
            exact he⟩
        clear he
        go_wp2
        go_roundw
        case rel => exact ⟨fr, i + 1, out, by omega, by omega, rfl, by go_num, hol, HO.out, HM, HN2, hb⟩
        case measure => simp [intOf]; omega
    · obtain rfl : i = t.size := by omega
      have HM2 : Hid (out ++ [t.extract fr t.size] = namesL t.data.toList) := ⟨by
        rw [← HM.out, namesL_none (fun c hc => by
          obtain ⟨j, hj, rfl⟩ := List.getElem_of_mem hc
          rw [List.length_drop, HL.out] at hj
          rw [List.getElem_drop, data_at t (fr + j) (by omega)]
          exact HN.out (fr + j) (by omega) (by omega) (by omega)), extract_end]⟩
      go_wp2_with (at_builtin; refine wpList_append_T rfl _ _ rfl w.heap.size _ out rfl (HO.out.alloc _) ⟨wr.heap.size, 0, none⟩ [t.extract fr t.size] 1 rfl (news1 wr _ _) (by simp; omega) (by simp; omega) ?_)
      intro v1 y1 hO1 hg1
      have hB3 : Below w.heap.size w y1 := (hb.alloc hbs _).grown hg1 (by simp; omega) (fun j hj => (World.ownsRow.lt HO.out j hj).1)
      have HO3 := hide hO1
      clear hO1 hg1
      go_wp2
      go_ret
      exact ⟨_, rfl, by rw [← HM2.out]; exact HO3.out, hB3⟩
end Go.Proofs.YtmidembbanlleafDoor.OpR
namespace Go.Proofs.YtmidembbanlleafDoor.OpR
open Go.ChangeShapes Go.WideShapes Go.ChangeAt Go.RowKit
set_option linter.unusedVariables false

/-- A text of one sign. -/
def one1 (c : UInt8) : ByteArray := ⟨#[c]⟩
set_option maxRecDepth 100000 in
set_option maxHeartbeats 1000000 in
theorem count_any (t : ByteArray) (w : World) :
    Calls Tryd.prog 46 #[.string t, .string ⟨#[47]⟩] w fun e w' => e = .returned (.int .i64 ((t.data.toList.count 47 : Nat) : Int)) ∧ w' = w := by
  go_enter Tryd.func46, Tryd.ntmps46
  go_wp2
  rw [run_callFunc_extern Tryd.func60 (by kernel_rfl) (by kernel_rfl) (by kernel_rfl) (e := Extern.BytealgCount.count) (by kernel_rfl), Lib.run_countString]
  simp only [Result.andThen]
  rw [Oper.upon_value]
  go_wp2
  go_ret
  exact ⟨rfl, rfl⟩
set_option maxRecDepth 100000 in
set_option maxHeartbeats 1000000 in
theorem indexS_any (t : ByteArray) (w : World) :
    Calls Tryd.prog 65 #[.string t, .int .u8 47] w fun e w' => e = .returned (.int .i64 (Lib.indexByte t.data.toList 47)) ∧ w' = w := by
  go_enter Tryd.func65, Tryd.ntmps65
  go_wp2
  rw [run_callFunc_extern Tryd.func69 (by kernel_rfl) (by kernel_rfl) (by kernel_rfl) (e := Extern.BytealgIndexByte.indexByte) (by kernel_rfl), Lib.run_indexByteString]
  simp only [Result.andThen]
  rw [Oper.upon_value]
  go_wp2
  go_ret
  exact ⟨rfl, rfl⟩
theorem index_one {t : ByteArray} (h : t.toList = [47]) : Lib.indexByte t.data.toList 47 = 0 := by
  rw [ByteArray.toList_eq] at h
  rw [h]
  rfl
set_option maxRecDepth 100000 in
set_option maxHeartbeats 1000000 in
theorem index_any (t : ByteArray) (w : World) :
    Calls Tryd.prog 47 #[.string t, .string ⟨#[47]⟩] w fun e w' => e = .returned (.int .i64 (Lib.indexByte t.data.toList 47)) ∧ w' = w := by
  have h := indexS_any t w
  by_cases he : t.toList = [47]
  · have HE := hide (index_one he)
    have hq : ([47] == t.toList) = true := by rw [he]; rfl
    clear he
    go_enter Tryd.func47, Tryd.ntmps47
    go_wp2_with (first | (go_at_call 65; refine h.mono ?_; rintro e w1 ⟨rfl, rfl⟩) | go_in)
    go_ret
    exact ⟨by rw [HE.out]; rfl, rfl⟩
  · have hq : ([47] == t.toList) = false := beq_eq_false_iff_ne.2 fun e => he e.symm
    clear he
    go_enter Tryd.func47, Tryd.ntmps47
    go_wp2_with (first | (go_at_call 65; refine h.mono ?_; rintro e w1 ⟨rfl, rfl⟩) | go_in)
    go_ret
    exact ⟨rfl, rfl⟩
/-- Does a text open with a sign? -/
def opens (c : UInt8) (t : ByteArray) : Bool := decide (t.data.toList.head? = some c)
theorem opens_yes {c : UInt8} {t : ByteArray} (h : opens c t = true) : ∃ h0 : 0 < t.size, t[0] = c ∧ ((t.extract 0 1).toList == [c]) = true := by
  obtain ⟨⟨l⟩⟩ := t
  cases l with
  | nil => simp [opens] at h
  | cons a r =>
    have e : a = c := by simpa [opens] using h
    subst e
    refine ⟨by show 0 < (a :: r).length; simp, rfl, ?_⟩
    rw [ByteArray.toList_eq, Lib.extract_data]
    simp
theorem opens_no {c : UInt8} {t : ByteArray} (h : opens c t = false) (h0 : 0 < t.size) : ¬ t[0] = c ∧ ((t.extract 0 1).toList == [c]) = false := by
  obtain ⟨⟨l⟩⟩ := t
  cases l with
  | nil => exact absurd h0 (by show ¬ 0 < ([] : List UInt8).length; simp)
  | cons a r =>
    have e : ¬ a = c := by simpa [opens] using h
    refine ⟨e, ?_⟩
    rw [ByteArray.toList_eq, Lib.extract_data]
    simp [e]
set_option maxRecDepth 100000 in
set_option maxHeartbeats 1000000 in
theorem cut_yes (c : UInt8) (t : ByteArray) (w : World) (ht : t.size ≤ 1048576) (h : opens c t = true) :
    Calls Tryd.prog 15 #[.string t, .string ⟨#[c]⟩] w fun e w' => e = .returned (.tuple #[.string (t.extract 1 t.size), .bool true]) ∧ w = w' := by
  obtain ⟨h0, h1, h2⟩ := opens_yes h
  have h3 : (1 : Int) ≤ (t.size : Int) := by omega
  clear h h1
  go_enter Tryd.func15, Tryd.ntmps15
  go_wp2
  go_ret2
  exact ⟨rfl, rfl⟩
set_option maxRecDepth 100000 in
set_option maxHeartbeats 1000000 in
theorem cut_no (c : UInt8) (t : ByteArray) (w : World) (ht : t.size ≤ 1048576) (h : opens c t = false) :
    Calls Tryd.prog 15 #[.string t, .string ⟨#[c]⟩] w fun e w' => e = .returned (.tuple #[.string t, .bool false]) ∧ w = w' := by
  by_cases h0 : 0 < t.size
  · obtain ⟨h1, h2⟩ := opens_no h h0
    have h3 : (1 : Int) ≤ (t.size : Int) := by omega
    clear h h1
    go_enter Tryd.func15, Tryd.ntmps15
    go_wp2
    go_ret2
    exact ⟨rfl, rfl⟩
  · have h3 : decide ((1 : Int) ≤ (t.size : Int)) = false := by simp; omega
    have h4 : ¬ (1 : Int) ≤ (t.size : Int) := by omega
    clear h
    go_enter Tryd.func15, Tryd.ntmps15
    go_wp2
    go_ret2
    exact ⟨rfl, rfl⟩
theorem flat_txts (ts : List ByteArray) : flatG (fun t : ByteArray => [Value.string t]) ts = txts ts := by
  induction ts with
  | nil => rfl
  | cons a r ih => rw [flatG_cons, ih]; rfl
theorem make_txts (n : Nat) (N : Int) (hN : N = (n : Int)) (hn : n ≤ 1048577) (w : World) : (Instr.makeSlice 36 (.int .i64 N) (.int .i64 N)).run Tryd.prog w = .ok (.slice (some ⟨w.heap.size, 0, none⟩) n n) (w.alloc (.cells (txts (List.replicate n ⟨#[]⟩)).toArray 9)) := by
  subst hN
  obtain ⟨i, hi, hz⟩ := Option.map_eq_some_iff.1 infoStr
  simp only [Prod.mk.injEq] at hz
  obtain ⟨hz, hs, hb⟩ := hz
  have h := run_make (P := Tryd.prog) w 36 9 i _ Tryd.underlying36 hi hz .i64 .i64 n n (by omega) (by omega) (by rw [hb]; omega) (by omega)
  simp only [Int.toNat_natCast, hs] at h
  rw [← flat_txts, ← made_cells (cs := fun t : ByteArray => [Value.string t]) (c := 1) (fun _ => rfl) (by omega) (⟨#[]⟩ : ByteArray) n]
  exact h
theorem made_txts (w : World) (ts : List ByteArray) (h : ts.length ≤ 1048577) : TxtRow (w.alloc (.cells (txts ts).toArray 9)) w.heap.size (.slice (some ⟨w.heap.size, 0, none⟩) ts.length ts.length) ts :=
  ⟨by simp [txts], .inr ⟨w.heap.size, ts.length, (txts ts).toArray, rfl, Nat.le_refl _, heap_alloc_new w _, Nat.le_refl _, by unfold maxLen; omega, by simp [txts], by rw [Nat.mul_one]; exact List.take_of_length_le (by simp [txts])⟩⟩
theorem slice_toT2 (W : World) (g o len cap k : Nat) (K : Int) (hK : K = (k : Int)) (h : k ≤ len) (hc : len ≤ cap) :
    (Instr.slice 36 (.slice (some ⟨g, o, none⟩) len cap) none (some (.int .i64 K)) none).run Tryd.prog W = .ok (.slice (some ⟨g, o, none⟩) k cap) W := by
  subst hK
  have ht : Tryd.prog.underlying 36 = some (.slice (Tryd.prog.elem 36)) := by kernel_rfl
  have hs : ∀ w, (sizeOf (Tryd.prog.elem 36)).run Tryd.prog w = .ok 1 w := fun _ => by kernel_rfl
  rw [run_slice_h W 36 (some ⟨g, o, none⟩) len cap ht .i64 (k : Int) (by omega) (by omega), hs]
  simp [Result.andThen, sliced, Addr.add]
theorem count_size (t : ByteArray) : t.data.toList.count 47 ≤ t.size := by rw [Lib.size_eq]; exact List.count_le_length
theorem below_set {B : Nat} {a c : World} {g p : Nat} (h : Below B a c) (hb : B ≤ g) (v : Value) : Below B a (c.setCell ⟨g, p, none⟩ v) := h.setCell (p := ⟨g, p, none⟩) hb v
set_option maxRecDepth 100000 in
set_option maxHeartbeats 1000000 in
theorem genSplit_any (t : ByteArray) (w : World) (ht : t.size ≤ 1048576) :
    Calls Tryd.prog 33 #[.string t, .string ⟨#[47]⟩, .int .i64 0, .int .i64 (-1)] w fun e w' => ∃ v, e = .returned v ∧ TxtRow w' w.heap.size v (namesL t.data.toList) ∧ Below w.heap.size w w' := by
  have hcs := count_size t
  have hco := fun W => count_any t W
  obtain ⟨n, hn⟩ : ∃ n, t.data.toList.count 47 = n := ⟨_, rfl⟩
  rw [hn] at hcs hco
  have HN := hide hn
  have hmk := make_txts (n + 1) ((n : Int) + 1) (by omega) (by omega)
  have HR0 : Hid (TxtRow (w.alloc (.cells (txts (List.replicate (n + 1) ⟨#[]⟩)).toArray 9)) w.heap.size (.slice (some ⟨w.heap.size, 0, none⟩) (n + 1) (n + 1)) (List.replicate (n + 1) ⟨#[]⟩)) := ⟨by have h := made_txts w (List.replicate (n + 1) ⟨#[]⟩) (by simp; omega); simpa using h⟩
  have hmin : min ((n : Int) + 1) ((t.size : Int) + 1) = (n : Int) + 1 := by omega
  have hix := fun s W => index_any s W
  have HIX := hide hix
  clear hn hix
  go_enter Tryd.func33, Tryd.ntmps33
  go_wp2_with (first | (go_at_call 46; refine (hco _).mono ?_; rintro e w1 ⟨rfl, rfl⟩))
  go_loopw [0, 10] (fun vs vi wr => ∃ (i : Nat) (rest : ByteArray) (cur : List ByteArray), vs = .string rest ∧ vi = .int .i64 i ∧ i ≤ n ∧ rest.size ≤ t.size ∧ cur.length = n + 1 ∧ Hid (rest.data.toList.count 47 + i = n) ∧ Hid (cur.take i ++ namesL rest.data.toList = namesL t.data.toList) ∧ TxtRow wr w1.heap.size (.slice (some ⟨w1.heap.size, 0, none⟩) (n + 1) (n + 1)) cur ∧ Below w1.heap.size w1 wr) (fun _ vi _ => n - (intOf vi).toNat)
  case atStart => exact ⟨0, t, List.replicate (n + 1) ⟨#[]⟩, rfl, rfl, Nat.zero_le _, Nat.le_refl _, by simp, ⟨by have := HN.out; omega⟩, ⟨by simp⟩, HR0.out, (Below.refl _ _).alloc (Nat.le_refl _) _⟩
  case round =>
    obtain ⟨i, rest, cur, rfl, rfl, hi, hrs, hcl, HC, HM, hX, hb⟩ := hrel
    have HX := hide hX
    have HCl := hide hcl
    obtain ⟨old, ci⟩ : ∃ old, wr.cell? ⟨w1.heap.size, i, none⟩ = some (.string old) := ⟨_, HX.out.cell.2 i (by omega)⟩
    have fi := HX.out.frozen i
    have hi0 : (0 : Int) ≤ (i : Int) := by omega
    have hi2 : (i : Int) < ((n + 1 : Nat) : Int) := by omega
    have hi3 : (i : Int) < (n : Int) + 1 := by omega
    have hRL : rest.data.toList.length = rest.size := (Lib.size_eq rest).symm
    have HRL := hide hRL
    clear hX hcl hRL
    by_cases h : i < n
    · have hi1 : (i : Int) < (n : Int) := by omega
      have hnn := count_index (l := rest.data.toList) (by have := HC.out; omega)
      obtain ⟨m, hm⟩ : ∃ m : Nat, Lib.indexByte rest.data.toList 47 = (m : Int) := ⟨(Lib.indexByte rest.data.toList 47).toNat, by omega⟩
      obtain ⟨hml, he, hl⟩ := index_some hm
      have hmr : m < rest.size := by rw [HRL.out] at hml; exact hml
      have hix := HIX.out rest wr
      rw [hm] at hix
      have hm0 : ¬ (m : Int) < 0 := by omega
      have hm1 : (m : Int) ≤ (rest.size : Int) := by omega
      have hm2 : (m : Int) + 1 ≤ (rest.size : Int) := by omega
      have hN2 : namesL rest.data.toList = rest.extract 0 m :: namesL (rest.extract (m + 1) rest.size).data.toList := by
        rw [namesL_at hl hml he, extract_bs, Lib.extract_data, List.drop_zero, Nat.sub_zero]
        congr 2
        rw [List.take_of_length_le]
        rw [List.length_drop, HRL.out]
        exact Nat.le_refl _
      have HC2 : Hid ((rest.extract (m + 1) rest.size).data.toList.count 47 + (i + 1) = n) := ⟨by
        have h1 := count_at hml he hl
        rw [Lib.extract_data, List.take_of_length_le (by rw [List.length_drop, HRL.out]; exact Nat.le_refl _)]
        have := HC.out
        omega⟩
      have HM2 : Hid ((cur.set i (rest.extract 0 m)).take (i + 1) ++ namesL (rest.extract (m + 1) rest.size).data.toList = namesL t.data.toList) := ⟨by
        rw [← HM.out, hN2, ← List.take_append_getElem (by rw [List.length_set, HCl.out]; omega), List.getElem_set_self, List.take_set_of_le (Nat.le_refl _)]
        simp⟩
      have HX2 : Hid (TxtRow (wr.setCell ⟨w1.heap.size, i, none⟩ (.string (rest.extract 0 m))) w1.heap.size (.slice (some ⟨w1.heap.size, 0, none⟩) (n + 1) (n + 1)) (cur.set i (rest.extract 0 m))) := ⟨by have h0 := HX.out; rw [← HCl.out] at h0 ⊢; have h1 := h0.store i (rest.extract 0 m); rwa [List.length_set] at h1⟩
      have hrs2 : (rest.extract (m + 1) rest.size).size ≤ t.size := by rw [ByteArray.size_extract]; omega
      clear hnn hm hml he hl hN2
      go_wp2_with (first | (go_at_call 47; refine hix.mono ?_; rintro e w2 ⟨rfl, rfl⟩))
      go_roundw
      case rel => exact ⟨i + 1, rest.extract (m + 1) rest.size, cur.set i (rest.extract 0 m), rfl, by go_num, by omega, hrs2, by rw [List.length_set]; exact HCl.out, HC2, HM2, HX2.out, below_set hb (Nat.le_refl _) _⟩
      case measure => simp [intOf]; omega
    · obtain rfl : i = n := by omega
      have hN2 : namesL rest.data.toList = [rest] := by
        rw [namesL_none (count_zero (by have := HC.out; omega)), bsL_data]
      have HX2 : Hid (TxtRow (wr.setCell ⟨w1.heap.size, i, none⟩ (.string rest)) w1.heap.size (.slice (some ⟨w1.heap.size, 0, none⟩) (i + 1) (i + 1)) (namesL t.data.toList)) := ⟨by
        have e : cur.set i rest = namesL t.data.toList := by
          rw [← HM.out, hN2, ← List.take_length (l := cur.set i rest), List.length_set, HCl.out, ← List.take_append_getElem (by rw [List.length_set, HCl.out]; omega), List.getElem_set_self, List.take_set_of_le (Nat.le_refl _)]
        have h0 := HX.out
        rw [← HCl.out] at h0 ⊢
        have h1 := h0.store i rest
        rw [List.length_set, e] at h1
        exact h1⟩
      have hsl := fun W => slice_toT2 W w1.heap.size 0 (i + 1) (i + 1) (i + 1) ((i : Int) + 1) (by omega) (Nat.le_refl _) (Nat.le_refl _)
      clear hN2
      go_wp2
      go_ret
      exact ⟨_, rfl, HX2.out, below_set hb (Nat.le_refl _) _⟩
set_option maxRecDepth 100000 in
set_option maxHeartbeats 1000000 in
theorem split_any (t : ByteArray) (w : World) (ht : t.size ≤ 1048576) :
    Calls Tryd.prog 18 #[.string t, .string ⟨#[47]⟩] w fun e w' => ∃ v, e = .returned v ∧ TxtRow w' w.heap.size v (namesL t.data.toList) ∧ Below w.heap.size w w' := by
  have h := genSplit_any t w ht
  go_enter Tryd.func18, Tryd.ntmps18
  go_wp2_with (first | (go_at_call 33; refine h.mono ?_; rintro e w1 ⟨v1, rfl, hO, hb⟩))
  go_ret
  exact ⟨_, rfl, hO, hb⟩
end Go.Proofs.YtmidembbanlleafDoor.OpR
