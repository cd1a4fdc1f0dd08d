/- Rows of texts that the call owns, and what slices.Reverse makes of one; impl.joined of none. -/
import Derived.Test.YtcpgkalafkhlgafJoin
import Derived.Test.YtcpgkalafkhlgafRowG
namespace Go.Proofs.Ytcpgkalafkhlgaf.OpR
open Go.ChangeShapes Go.WideShapes Go.ChangeAt Go.RowKit
set_option linter.unusedVariables false

theorem infoStr : (Try.prog.info? 9).map (fun i => (i.zero, i.size, i.bytes)) = some (some (.string ⟨#[]⟩), 1, 16) := by kernel_rfl
def txts (ts : List ByteArray) : List Value := ts.map .string
theorem txts_one (ts : List ByteArray) : ∀ u ∈ txts ts, u.oneCell' = true := by
  intro u hu
  obtain ⟨t, _, rfl⟩ := List.mem_map.1 hu
  rfl
/-- A row of texts that the call owns. -/
def TxtRow (w : World) (base : Nat) (v : Value) (ts : List ByteArray) : Prop := w.ownsRow base 9 1 v ts.length (txts ts)
theorem TxtRow.at {w : World} {base : Nat} {v : Value} {ts : List ByteArray} (h : TxtRow w base v ts) (hne : ts ≠ []) : ∃ g cap, v = .slice (some ⟨g, 0, none⟩) ts.length cap ∧ base ≤ g ∧ g < w.heap.size ∧ ts.length ≤ cap ∧ ∀ j (hj : j < ts.length), w.cell? ⟨g, j, none⟩ = some (.string ts[j]) := by
  have h0 := h
  rcases h.2 with ⟨e, hn⟩ | ⟨g, cap, cur, rfl, hb, hg, hl, hm, hs, ht⟩
  · exact absurd (List.eq_nil_of_length_eq_zero hn) hne
  · refine ⟨g, cap, rfl, hb, (Array.getElem?_eq_some_iff.1 hg).1, hl, fun j hj => ?_⟩
    have hc := h0.cells rfl j (.string ts[j]) (by simp [txts, hj])
    rwa [Addr.add_lit, Nat.zero_add] at hc
theorem TxtRow.stays {w w' : World} {base : Nat} {v : Value} {ts : List ByteArray} (h : TxtRow w base v ts) (hb : Below w.heap.size w w') : TxtRow w' base v ts :=
  h.kept (row := none) ⟨hb.os, hb.tape, hb.output, hb.size, fun k hk _ => hb.block k hk⟩ (by cases hv : v.ownBlock <;> simp)
theorem TxtRow.store {w : World} {base g cap : Nat} {ts : List ByteArray} (h : TxtRow w base (.slice (some ⟨g, 0, none⟩) ts.length cap) ts) (p : Nat) (t : ByteArray) :
    TxtRow (w.setCell ⟨g, p, none⟩ (.string t)) base (.slice (some ⟨g, 0, none⟩) (ts.set p t).length cap) (ts.set p t) := by
  unfold TxtRow at h ⊢
  rw [List.length_set]
  rcases h.2 with ⟨e, _⟩ | ⟨g', cap', cur, e, hb, hg, h1, h2, h3, h4⟩
  · cases e
  · simp only [Value.slice.injEq, Option.some.injEq, Addr.mk.injEq] at e
    obtain ⟨⟨rfl, _⟩, _, rfl⟩ := e
    refine ⟨by simp [txts], .inr ⟨g, cap, (cur.toList.set p (.string t)).toArray, rfl, hb, ?_, h1, h2, by simp [h3], ?_⟩⟩
    · have := puts_block (w := w) (g := g) (T := 9) [.string t] cur.toList p w (by simpa using hg)
      exact this
    · rw [List.take_set, h4]
      simp [txts, List.map_set]
theorem TxtRow.frozen {w : World} {base g n cap : Nat} {ts : List ByteArray} (h : TxtRow w base (.slice (some ⟨g, 0, none⟩) n cap) ts) (p : Nat) : w.frozen? ⟨g, p, none⟩ = false := by
  rcases h.2 with ⟨e, _⟩ | ⟨g', cap', cur, e, hb, hg, h1, h2, h3, h4⟩
  · cases e
  · simp only [Value.slice.injEq, Option.some.injEq, Addr.mk.injEq] at e
    obtain ⟨⟨rfl, _⟩, _, rfl⟩ := e
    simp [World.frozen?, hg]
theorem TxtRow.cell {w : World} {base g n cap : Nat} {ts : List ByteArray} (h : TxtRow w base (.slice (some ⟨g, 0, none⟩) n cap) ts) : g < w.heap.size ∧ ∀ j (hj : j < ts.length), w.cell? ⟨g, j, none⟩ = some (.string ts[j]) := by
  have h0 := h
  rcases h.2 with ⟨e, _⟩ | ⟨g', cap', cur, e, hb, hg, h1, h2, h3, h4⟩
  · cases e
  · simp only [Value.slice.injEq, Option.some.injEq, Addr.mk.injEq] at e
    obtain ⟨⟨rfl, _⟩, _, rfl⟩ := e
    refine ⟨(Array.getElem?_eq_some_iff.1 hg).1, fun j hj => ?_⟩
    have hc := h0.cells rfl j (.string ts[j]) (by simp [txts, hj])
    rwa [Addr.add_lit, Nat.zero_add] at hc
theorem joined_rev (ts : List ByteArray) (base g cap : Nat) (w : World) (h : TxtRow w base (.slice (some ⟨g, 0, none⟩) ts.length cap) ts.reverse) (hz : (NumR.cat ts.reverse).length ≤ 1099511627776) (hn : ts.length ≤ 1048576) :
    Calls Try.prog 34 #[.slice (some ⟨g, 0, none⟩) ts.length cap] w fun e w' => e = .returned (.string ⟨(NumR.cat ts.reverse).toArray⟩) ∧ Below w.heap.size w w' := by
  obtain ⟨h1, h2⟩ := h.cell
  have hj := NumR.joined_cap ts.reverse cap g w h1 h2 hz (by simpa using hn)
  rwa [List.length_reverse] at hj
theorem grown_set {w c : World} {g : Nat} (h : w.grownBy c (some g)) (p : Nat) (u : Value) : w.grownBy (c.setCell ⟨g, p, none⟩ u) (some g) :=
  ⟨h.os, h.tape, h.output, Nat.le_trans h.size (by simp [World.setCell]), fun k hk hne => (Below.heap_setCell _ _ _ _ (fun e => hne (by rw [e]))).trans (h.block k hk hne)⟩
theorem wpList_append_T {ops : Array Oper} {rest : List Oper} {o : Oper} {a : Act} {w : World} {Q : Exit → Act → World → Prop} (hgd : o.guard = none) (s x : Operand)
    (ho : o.op = .call { callee := .builtin .append, args := #[s, x], argTypes := #[54, 54] })
    (base : Nat) (v : Value) (out : List ByteArray) (hs : a.eval s = v) (hown : TxtRow w base v out)
    (ad : Addr) (m : List ByteArray) (c : Nat) (hx : a.eval x = .slice (some ad) m.length c) (hn : ∀ j u, (txts m)[j]? = some u → w.cell? (ad.add j) = some u)
    (hlen : out.length + m.length ≤ 4000000) (hbase : base ≤ w.heap.size)
    (h : ∀ v' w', TxtRow w' base v' (out ++ m) → w.grownBy w' v.ownBlock → wpList Try.prog ops Q rest (a.put o.dst v') w') : wpList Try.prog ops Q (o :: rest) a w := by
  obtain ⟨i0, hi, hzz⟩ := Option.map_eq_some_iff.1 infoStr
  simp only [Prod.mk.injEq] at hzz
  obtain ⟨hz0, hz1, hz2⟩ := hzz
  have hm : maxLen = 9223372036854775807 := rfl
  refine wpList_append_own _ hgd s x 54 ho base 9 i0 _ 1 16 Try.underlying54 hi hz0 hz1 hz2 rfl (by decide) v out.length (txts out) hs hown ad m.length c (txts m) hx (by simp [txts]) hn (txts_one m) (by omega) (by omega) hbase (fun v' w' h1 h2 h3 => h v' w' ?_ h2)
  unfold TxtRow
  rw [List.length_append, show txts (out ++ m) = txts out ++ txts m by simp [txts]]
  exact h1
theorem news2 (x : World) (t0 t1 : ByteArray) (T : TypeId) : ∀ j u, (txts [t0, t1])[j]? = some u → (x.alloc (.cells #[.string t0, .string t1] T)).cell? ((⟨x.heap.size, 0, none⟩ : Addr).add j) = some u := by
  intro j u hu
  rw [Addr.add_lit, Nat.zero_add, World.cell?_alloc_at _ _ _ _ rfl]
  simpa [txts] using hu
theorem news1 (x : World) (t0 : ByteArray) (T : TypeId) : ∀ j u, (txts [t0])[j]? = some u → (x.alloc (.cells #[.string t0] T)).cell? ((⟨x.heap.size, 0, none⟩ : Addr).add j) = some u := by
  intro j u hu
  rw [Addr.add_lit, Nat.zero_add, World.cell?_alloc_at _ _ _ _ rfl]
  simpa [txts] using hu
/-- What has been turned round when i pairs have been exchanged. -/
def TurnedTo (ts xs : List ByteArray) (i : Nat) : Prop := xs.length = ts.length ∧ ∀ k, k < ts.length → xs[k]? = if k < i ∨ ts.length ≤ k + i then ts[ts.length - 1 - k]? else ts[k]?
theorem turned_start (ts : List ByteArray) : TurnedTo ts ts 0 := ⟨rfl, fun k hk => by rw [if_neg (by omega)]⟩
theorem turned_done {ts xs : List ByteArray} {i : Nat} (h : TurnedTo ts xs i) (hi : ts.length ≤ 2 * i + 1) : xs = ts.reverse := by
  apply List.ext_getElem?
  intro k
  by_cases hk : k < ts.length
  · rw [h.2 k hk, List.getElem?_reverse hk]
    split
    · rfl
    · rw [show ts.length - 1 - k = k by omega]
  · rw [List.getElem?_eq_none (by rw [h.1]; omega), List.getElem?_eq_none (by simp; omega)]
theorem turned_step {ts xs : List ByteArray} {i j : Nat} (h : TurnedTo ts xs i) (hij : i + j + 1 = ts.length) (hlt : i < j) (hi : i < xs.length) (hj : j < xs.length) : TurnedTo ts ((xs.set i xs[j]).set j xs[i]) (i + 1) := by
  have hxi : xs[i]? = ts[i]? := by rw [h.2 i (by omega), if_neg (by omega)]
  have hxj : xs[j]? = ts[j]? := by rw [h.2 j (by omega), if_neg (by omega)]
  refine ⟨by simp [h.1], fun k hk => ?_⟩
  rw [List.getElem?_set, List.length_set]
  by_cases e1 : j = k
  · subst e1
    rw [if_pos rfl, if_pos hj, if_pos (by omega), show ts.length - 1 - j = i by omega, ← hxi, List.getElem?_eq_getElem hi]
  · rw [if_neg e1, List.getElem?_set]
    by_cases e2 : i = k
    · subst e2
      rw [if_pos rfl, if_pos hi, if_pos (by omega), show ts.length - 1 - i = j by omega, ← hxj, List.getElem?_eq_getElem hj]
    · rw [if_neg e2, h.2 k hk]
      by_cases e3 : k < i ∨ ts.length ≤ k + i
      · rw [if_pos e3, if_pos (by omega)]
      · rw [if_neg e3, if_neg (by omega)]
set_option maxRecDepth 100000 in
set_option maxHeartbeats 1000000 in
theorem reverse_any (ts : List ByteArray) (base g cap : Nat) (w : World) (hO : TxtRow w base (.slice (some ⟨g, 0, none⟩) ts.length cap) ts) (hl : ts.length ≤ 1048576) :
    Calls Try.prog 33 #[.slice (some ⟨g, 0, none⟩) ts.length cap] w fun e w' => (∃ v, e = .returned v) ∧ TxtRow w' base (.slice (some ⟨g, 0, none⟩) ts.length cap) ts.reverse ∧ w.grownBy w' (some g) := by
  have HO := hide hO
  clear hO
  go_enter Try.func33, Try.ntmps33
  go_wp2
  go_loopw [2, 3] (fun a b wr => ∃ (i j : Nat) (xs : List ByteArray), a = .int .i64 (i : Int) ∧ b = .int .i64 ((j : Int) - 1) ∧ i + j = ts.length ∧ i ≤ j ∧ TurnedTo ts xs i ∧ TxtRow wr base (.slice (some ⟨g, 0, none⟩) ts.length cap) xs ∧ w.grownBy wr (some g)) (fun _ b _ => (intOf b + 1).toNat)
  case atStart => exact ⟨0, ts.length, ts, rfl, rfl, by omega, by omega, turned_start ts, HO.out, ⟨rfl, rfl, rfl, Nat.le_refl _, fun _ _ _ => rfl⟩⟩
  case round =>
    obtain ⟨i, j, xs, rfl, rfl, hij, hle, hT, hX, hg⟩ := hrel
    have HT := hide hT
    have HX := hide hX
    have HG := hide hg
    have hxl := hT.1
    clear hT hX hg
    by_cases h : (i : Int) < (j : Int) - 1
    · obtain ⟨j, rfl⟩ : ∃ m, j = m + 1 := ⟨j - 1, by omega⟩
      obtain ⟨g', cap', e', _, _, _, hc⟩ := TxtRow.at (by have := HX.out; rw [← hxl] at this; exact this) (by intro e; rw [e] at hxl; simp at hxl; omega)
      cases e'
      have ci := hc i (by omega)
      have cj := hc j (by omega)
      have fi := HX.out.frozen i
      have fj := HX.out.frozen j
      have hi0 : (0 : Int) ≤ (i : Int) := by omega
      have hi1 : (i : Int) < (ts.length : Int) := by omega
      have hj0 : (0 : Int) ≤ (j : Int) := by omega
      have hj1 : (j : Int) < (ts.length : Int) := by omega
      have hjj : ((j + 1 : Nat) : Int) - 1 = (j : Int) := by omega
      have hlt : (i : Int) < (j : Int) := by omega
      have hne : i ≠ j := by omega
      rw [hjj]
      clear hc h hjj
      go_wp2_with fail
      go_region
      have HW : Hid (TxtRow ((wr.setCell ⟨g, i, none⟩ (.string xs[j])).setCell ⟨g, j, none⟩ (.string xs[i])) base (.slice (some ⟨g, 0, none⟩) ts.length cap) ((xs.set i xs[j]).set j xs[i])) := ⟨by
        have h1 : TxtRow wr base (.slice (some ⟨g, 0, none⟩) xs.length cap) xs := by rw [hxl]; exact HX.out
        have h2 := (h1.store i xs[j]).store j xs[i]
        have e : (Value.slice (some ⟨g, 0, none⟩) xs.length cap) = .slice (some ⟨g, 0, none⟩) ts.length cap := by rw [hxl]
        rw [List.length_set, List.length_set, e] at h2
        exact h2⟩
      have HG2 : Hid (w.grownBy ((wr.setCell ⟨g, i, none⟩ (.string xs[j])).setCell ⟨g, j, none⟩ (.string xs[i])) (some g)) := ⟨grown_set (grown_set HG.out _ _) _ _⟩
      have HS := hide (turned_step HT.out (j := j) (by omega) (by omega) (by omega) (by omega))
      clear ci cj fi fj
      go_wp2
      go_roundw
      case rel => exact ⟨i + 1, j, _, by go_num, by go_num, by omega, by omega, HS.out, HW.out, ⟨HG2.out.os, HG2.out.tape, HG2.out.output, HG2.out.size, HG2.out.block⟩⟩
      case measure => simp [intOf]
    · have HE := hide (turned_done HT.out (by omega))
      go_wp2
      go_end0
      exact ⟨⟨_, rfl⟩, by have := HX.out; rwa [HE.out] at this, HG.out⟩
set_option maxRecDepth 100000 in
set_option maxHeartbeats 1000000 in
theorem reverse_nil (w : World) :
    Calls Try.prog 33 #[.slice none 0 0] w fun e w' => (∃ v, e = .returned v) ∧ w = w' := by
  go_enter Try.func33, Try.ntmps33
  go_wp2
  go_loopw [2, 3] (fun a b wr => a = .int .i64 0 ∧ b = .int .i64 (-1) ∧ wr = w) (fun _ b _ => 0)
  case atStart => exact ⟨rfl, rfl, rfl⟩
  case round =>
    obtain ⟨rfl, rfl, rfl⟩ := hrel
    go_wp2
    go_end0
    exact ⟨⟨_, rfl⟩, rfl⟩
set_option maxRecDepth 100000 in
set_option maxHeartbeats 1000000 in
theorem joined_nil (w : World) :
    Calls Try.prog 34 #[.slice none 0 0] w fun e w' => e = .returned (.string ⟨#[]⟩) ∧ Below w.heap.size w w' := by
  have hmk : ∀ w, (Instr.makeSlice 80 (.int .i64 0) (.int .i64 0)).run Try.prog w = .ok (.slice (some ⟨w.heap.size, 0, none⟩) 0 0) (w.alloc (.cells (NumR.row 0 []) 5)) :=
    fun w => by rw [← NumR.row_made]; exact run_make_row' 80 5 (.int .u8 0) 1 Try.underlying80 NumR.info8' rfl .i64 .i64 0 (by omega) (by omega) w
  have hcv := NumR.conv_row w 0 [] rfl
  go_enter Try.func34, Try.ntmps34
  go_wp2
  go_loop [3, 12] (fun z i => z = .int .i64 0 ∧ i = .int .i64 0) (fun _ i => 0)
  case atStart => exact ⟨rfl, rfl⟩
  case round =>
    obtain ⟨rfl, rfl⟩ := hrel
    go_wp2
    clear hmk
    go_loopw [7, 25] (fun z i wr => z = .int .i64 0 ∧ i = .int .i64 0 ∧ wr = w.alloc (.cells (NumR.row 0 []) 5)) (fun _ i _ => 0)
    case atStart => exact ⟨rfl, rfl, rfl⟩
    case round =>
      obtain ⟨rfl, rfl, rfl⟩ := hrel
      go_wp2
      go_ret
      exact ⟨rfl, (Below.refl _ _).alloc (Nat.le_refl _) _⟩
end Go.Proofs.Ytcpgkalafkhlgaf.OpR
