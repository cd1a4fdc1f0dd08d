/- Proves what impl.refusedAdd answers, and the search for a deed in a log (impl: slices.Index; spec: l06In). -/
import Derived.Test.YtkfjommoogmehaaDoorCliI
import Derived.Test.YtkfjommoogmehaaDoorIsE
import Derived.Test.YtkfjommoogmehaaDoorCliQ
namespace Go.Proofs.YtkfjommoogmehaaDoor.OpR
open Go.ChangeShapes Go.WideShapes Go.ChangeAt Go.RowKit
set_option linter.unusedVariables false

theorem refAdd_ok (w : World) : Calls Tryd.prog 63 #[.int .i64 0] w fun e w' => e = .returned .nilIface ∧ Below w.heap.size w w' := by
  go_enter Tryd.func63, Tryd.ntmps63
  go_wp2
  go_ret
  exact ⟨rfl, Below.refl _ _⟩
theorem refAdd_no {w : World} {f : Nat → Addr} (hS : Sents w f) {c : Int} (hc : c = 7 ∨ c = 9) : Calls Tryd.prog 63 #[.int .i64 c] w fun e w' => e = .returned (errV f (gOf c)) ∧ Below w.heap.size w w' := by
  have v4 := hS.var 4 (by omega)
  have v5 := hS.var 5 (by omega)
  unfold errV
  clear hS
  rcases hc with rfl | rfl
  all_goals (
    simp only [gOf]
    go_enter Tryd.func63, Tryd.ntmps63
    go_wp2
    go_ret
    exact ⟨rfl, Below.refl _ _⟩)
set_option maxRecDepth 100000 in
set_option maxHeartbeats 400000 in
theorem eql_ops (a b : OpV) (W : World) : (binOp .eql 31 a.agg b.agg).run Tryd.prog W = .ok (.bool (sameOp a b)) W := by
  unfold OpV.agg
  simp [go_sem]
  by_cases h : a = b
  · subst h
    simp [same_true]
  · rw [same_false h]
    repeat' split
    all_goals first | rfl | skip
    exfalso
    rename_i h0 h1 h2 h3 h4 h5 h6
    refine h ?_
    obtain ⟨a0, a1, a2, a3, a4, a5, a6⟩ := a
    obtain ⟨b0, b1, b2, b3, b4, b5, b6⟩ := b
    simp only at h0 h1 h2 h3 h4 h5 h6
    rw [ByteArray.toList_eq, ByteArray.toList_eq] at h5 h6
    rw [h0, h1, h2, h3, h4, ByteArray.ext (Array.toList_inj.1 h5), ByteArray.ext (Array.toList_inj.1 h6)]
theorem any_upto {l : List OpV} {o : OpV} (h : ∀ j (hj : j < l.length), sameOp l[j] o = false) : l.any (fun x => sameOp x o) = false := by
  rw [List.any_eq_false]
  intro x hx
  obtain ⟨j, hj, rfl⟩ := List.getElem_of_mem hx
  simp [h j hj]
theorem any_at {l : List OpV} {o : OpV} {j : Nat} (hj : j < l.length) (h : sameOp l[j] o = true) : l.any (fun x => sameOp x o) = true := List.any_eq_true.2 ⟨l[j], List.getElem_mem hj, h⟩
set_option maxRecDepth 100000 in
set_option maxHeartbeats 1000000 in
theorem sIn_any (l : List OpV) (o : OpV) (ao : Option Addr) (cap : Nat) (w : World) (hl : l.length ≤ 150) (hA : OpsAt w ao l) :
    Calls Tryd.prog 22 #[.slice ao l.length cap, o.agg] w fun e w' => e = .returned (.bool (l.any fun x => sameOp x o)) ∧ Below w.heap.size w w' := by
  have HA := hide hA
  have HA0 := hide ((Below.refl w.heap.size w).alloc (Nat.le_refl _) (.cells #[.int .i64 o.time, .int .i64 o.repl, .int .i64 o.kind, .int .i64 o.node, .int .i64 o.parent, .string o.name, .string o.value] 31))
  have HN := hide (one_ops w o 31)
  clear hA
  unfold OpV.agg
  go_enter Tryd.func22, Tryd.ntmps22
  go_wp2
  go_loopw [5] (fun i wr => ∃ k : Nat, k ≤ l.length ∧ i = .int .i64 k ∧ (∀ j (hj : j < l.length), j < k → sameOp l[j] o = false) ∧ Below (w.alloc (.cells #[.int .i64 o.time, .int .i64 o.repl, .int .i64 o.kind, .int .i64 o.node, .int .i64 o.parent, .string o.name, .string o.value] 31)).heap.size (w.alloc (.cells #[.int .i64 o.time, .int .i64 o.repl, .int .i64 o.kind, .int .i64 o.node, .int .i64 o.parent, .string o.name, .string o.value] 31)) wr) (fun i _ => l.length - (intOf i).toNat)
  case atStart => exact ⟨0, by omega, rfl, fun j hj h => by omega, Below.refl _ _⟩
  case round =>
    obtain ⟨k, hkl, rfl, hal, hw⟩ := hrel
    have HL := hide hal
    clear hal
    by_cases h : k < l.length
    · obtain ⟨b1, o1, rfl, hlt1, ho1⟩ := HA.out k h
      obtain ⟨c0, c1, c2, c3, c4, c5, c6⟩ := ho1.block (w' := wr) ((hw.block b1 (by simp; omega)).trans (HA0.out.block b1 hlt1))
      obtain ⟨bx, ox, eb, hltb, hob⟩ := HN.out 0 (by simp)
      cases eb
      obtain ⟨d0, d1, d2, d3, d4, d5, d6⟩ := hob.block (w' := wr) (hw.block _ hltb)
      simp only [List.getElem_cons_zero, Nat.zero_mul, Nat.zero_add] at d0 d1 d2 d3 d4 d5 d6
      have hi0 : (0 : Int) ≤ (k : Int) := by omega
      have hi1 : (k : Int) < (l.length : Int) := by omega
      have heql := fun W => eql_ops l[k] o W
      unfold OpV.agg at heql
      clear ho1 hob hltb
      cases hs : sameOp l[k] o
      · simp only [hs] at heql
        have HNe := hide hs
        clear hs
        go_wp2_with fail
        (try go_quiet (fail))
        (try go_wp2)
        go_roundw
        case rel =>
          refine ⟨k + 1, by omega, by go_num, fun j hj hjk => ?_, by first | exact hw | exact hw.trans ((drewN_below wr nq).mono hw.size) | fail⟩
          rcases Nat.lt_or_ge j k with h' | h'
          · exact HL.out j hj h'
          · obtain rfl : j = k := by omega
            exact HNe.out
        case measure => simp [intOf]; omega
      · simp only [hs] at heql
        have HNe := hide hs
        clear hs
        go_wp2_with fail
        (try go_quiet (fail))
        (try go_wp2)
        go_ret
        exact ⟨by rw [any_at h HNe.out]; rfl, by first | exact HA0.out.trans (hw.mono HA0.out.size) | exact HA0.out.trans ((hw.trans ((drewN_below wr nq).mono hw.size)).mono HA0.out.size) | fail⟩
    · obtain rfl : k = l.length := by omega
      go_wp2
      go_ret
      exact ⟨by rw [any_upto (fun j hj => HL.out j hj hj)]; rfl, HA0.out.trans (hw.mono HA0.out.size)⟩
theorem same_comm (a b : OpV) : sameOp a b = sameOp b a := by
  by_cases h : a = b
  · rw [h]
  · rw [same_false h, same_false (fun e => h e.symm)]
set_option maxRecDepth 100000 in
set_option maxHeartbeats 1000000 in
theorem index_any (l : List OpV) (o : OpV) (ao : Option Addr) (cap : Nat) (w : World) (hl : l.length ≤ 150) (hA : OpsAt w ao l) :
    Calls Tryd.prog 78 #[.slice ao l.length cap, o.agg] w fun e w' => ∃ n : Int, e = .returned (.int .i64 n) ∧ decide (0 ≤ n) = (l.any fun x => sameOp x o) ∧ Below w.heap.size w w' := by
  have HA := hide hA
  have HA0 := hide ((Below.refl w.heap.size w).alloc (Nat.le_refl _) (.cells #[.int .i64 o.time, .int .i64 o.repl, .int .i64 o.kind, .int .i64 o.node, .int .i64 o.parent, .string o.name, .string o.value] 31))
  have HN := hide (one_ops w o 31)
  clear hA
  unfold OpV.agg
  go_enter Tryd.func78, Tryd.ntmps78
  go_wp2
  go_loopw [5, 8] (fun v5 i wr => ∃ k : Nat, k ≤ l.length ∧ i = .int .i64 k ∧ (∀ j (hj : j < l.length), j < k → sameOp l[j] o = false) ∧ Below (w.alloc (.cells #[.int .i64 o.time, .int .i64 o.repl, .int .i64 o.kind, .int .i64 o.node, .int .i64 o.parent, .string o.name, .string o.value] 31)).heap.size (w.alloc (.cells #[.int .i64 o.time, .int .i64 o.repl, .int .i64 o.kind, .int .i64 o.node, .int .i64 o.parent, .string o.name, .string o.value] 31)) wr) (fun _ i _ => l.length - (intOf i).toNat)
  case atStart => exact ⟨0, by omega, rfl, fun j hj h => by omega, Below.refl _ _⟩
  case round =>
    obtain ⟨k, hkl, rfl, hal, hw⟩ := hrel
    have HL := hide hal
    clear hal
    by_cases h : k < l.length
    · obtain ⟨b1, o1, rfl, hlt1, ho1⟩ := HA.out k h
      obtain ⟨c0, c1, c2, c3, c4, c5, c6⟩ := ho1.block (w' := wr) ((hw.block b1 (by simp; omega)).trans (HA0.out.block b1 hlt1))
      obtain ⟨bx, ox, eb, hltb, hob⟩ := HN.out 0 (by simp)
      cases eb
      obtain ⟨d0, d1, d2, d3, d4, d5, d6⟩ := hob.block (w' := wr) (hw.block _ hltb)
      simp only [List.getElem_cons_zero, Nat.zero_mul, Nat.zero_add] at d0 d1 d2 d3 d4 d5 d6
      have hi0 : (0 : Int) ≤ (k : Int) := by omega
      have hi1 : (k : Int) < (l.length : Int) := by omega
      have heql := fun W => (eql_ops o l[k] W).trans (by rw [same_comm o l[k]])
      unfold OpV.agg at heql
      clear ho1 hob hltb
      cases hs : sameOp l[k] o
      · simp only [hs] at heql
        have HNe := hide hs
        clear hs
        go_wp2_with fail
        (try go_quiet (fail))
        (try go_wp2)
        go_roundw
        case rel =>
          refine ⟨k + 1, by omega, by go_num, fun j hj hjk => ?_, by first | exact hw | exact hw.trans ((drewN_below wr nq).mono hw.size) | fail⟩
          rcases Nat.lt_or_ge j k with h' | h'
          · exact HL.out j hj h'
          · obtain rfl : j = k := by omega
            exact HNe.out
        case measure => simp [intOf]; omega
      · simp only [hs] at heql
        have HNe := hide hs
        clear hs
        go_wp2_with fail
        (try go_quiet (fail))
        (try go_wp2)
        go_ret
        exact ⟨(k : Int), rfl, by rw [any_at h HNe.out]; simp, by first | exact HA0.out.trans (hw.mono HA0.out.size) | exact HA0.out.trans ((hw.trans ((drewN_below wr nq).mono hw.size)).mono HA0.out.size) | fail⟩
    · obtain rfl : k = l.length := by omega
      go_wp2
      go_ret
      exact ⟨-1, rfl, by rw [any_upto (fun j hj => HL.out j hj hj)]; rfl, HA0.out.trans (hw.mono HA0.out.size)⟩
end Go.Proofs.YtkfjommoogmehaaDoor.OpR
