/- Proves what impl.refusedAdd answers, and the search for a deed in a log (impl: slices.Index; spec: l06In). Proves what impl.onceEach makes of a row of ops: one of each stamp, in the row's own memory. Proves what impl.LogAdd tells. Proves what impl's hand knows of deeds that come: holds, knowsOwn, unseen. Proves what impl's (opLog).with answers where LogAdd takes the deeds. -/
import Derived.Test.YtfkgmkcndchkjaaGreatDoorCliI
import Derived.Test.YtfkgmkcndchkjaaGreatDoorIsE
import Derived.Test.YtfkgmkcndchkjaaGreatDoorCliQ
import Derived.Test.YtfkgmkcndchkjaaGreatDoorOnceL
import Derived.Test.YtfkgmkcndchkjaaGreatDoorSLog
import Derived.Test.YtfkgmkcndchkjaaGreatDoorIOps
import Derived.Test.YtfkgmkcndchkjaaGreatDoorOwnW
import Derived.Test.YtfkgmkcndchkjaaGreatDoorCliX
namespace Go.Proofs.YtfkgmkcndchkjaaGreatDoor.OpR
open Go.ChangeShapes Go.WideShapes Go.ChangeAt Go.RowKit
set_option linter.unusedVariables false

theorem refAdd_ok (w : World) : Calls Tryz.prog 112 #[.int .i64 0] w fun e w' => e = .returned .nilIface ∧ Below w.heap.size w w' := by
  go_enter Tryz.func112, Tryz.ntmps112
  go_wp2
  go_ret
  exact ⟨rfl, Below.refl _ _⟩
theorem refAdd_no {w : World} {f : Nat → Addr} (hS : Sents w f) {c : Int} (hc : c = 7 ∨ c = 9) : Calls Tryz.prog 112 #[.int .i64 c] w fun e w' => e = .returned (errV f (gOf c)) ∧ Below w.heap.size w w' := by
  have v4 := hS.var 5 (by omega)
  have v5 := hS.var 2 (by omega)
  unfold errV
  clear hS
  rcases hc with rfl | rfl
  all_goals (
    simp only [gOf]
    go_enter Tryz.func112, Tryz.ntmps112
    go_wp2
    go_ret
    exact ⟨rfl, Below.refl _ _⟩)
set_option maxRecDepth 100000 in
set_option maxHeartbeats 400000 in
theorem eql_ops (a b : OpV) (W : World) : (binOp .eql 30 a.agg b.agg).run Tryz.prog W = .ok (.bool (sameOp a b)) W := by
  unfold OpV.agg
  simp [go_sem]
  by_cases h : a = b
  · subst h
    simp [same_true]
  · rw [same_false h]
    repeat' split
    all_goals first | rfl | skip
    exfalso
    rename_i h0 h1 h2 h3 h4 h5 h6
    refine h ?_
    obtain ⟨a0, a1, a2, a3, a4, a5, a6⟩ := a
    obtain ⟨b0, b1, b2, b3, b4, b5, b6⟩ := b
    simp only at h0 h1 h2 h3 h4 h5 h6
    rw [ByteArray.toList_eq, ByteArray.toList_eq] at h5 h6
    rw [h0, h1, h2, h3, h4, ByteArray.ext (Array.toList_inj.1 h5), ByteArray.ext (Array.toList_inj.1 h6)]
theorem any_upto {l : List OpV} {o : OpV} (h : ∀ j (hj : j < l.length), sameOp l[j] o = false) : l.any (fun x => sameOp x o) = false := by
  rw [List.any_eq_false]
  intro x hx
  obtain ⟨j, hj, rfl⟩ := List.getElem_of_mem hx
  simp [h j hj]
theorem any_at {l : List OpV} {o : OpV} {j : Nat} (hj : j < l.length) (h : sameOp l[j] o = true) : l.any (fun x => sameOp x o) = true := List.any_eq_true.2 ⟨l[j], List.getElem_mem hj, h⟩
set_option maxRecDepth 100000 in
set_option maxHeartbeats 1000000 in
theorem sIn_any (l : List OpV) (o : OpV) (ao : Option Addr) (cap : Nat) (w : World) (hl : l.length ≤ 150) (hA : OpsAt w ao l) :
    Calls Tryz.prog 154 #[.slice ao l.length cap, o.agg] w fun e w' => e = .returned (.bool (l.any fun x => sameOp x o)) ∧ Below w.heap.size w w' := by
  have HA := hide hA
  have HA0 := hide ((Below.refl w.heap.size w).alloc (Nat.le_refl _) (.cells #[.int .i64 o.time, .int .i64 o.repl, .int .i64 o.kind, .int .i64 o.node, .int .i64 o.parent, .string o.name, .string o.value] 30))
  have HN := hide (one_ops w o 30)
  clear hA
  unfold OpV.agg
  go_enter Tryz.func154, Tryz.ntmps154
  go_wp2
  go_loopw [5] (fun i wr => ∃ k : Nat, k ≤ l.length ∧ i = .int .i64 k ∧ (∀ j (hj : j < l.length), j < k → sameOp l[j] o = false) ∧ Below (w.alloc (.cells #[.int .i64 o.time, .int .i64 o.repl, .int .i64 o.kind, .int .i64 o.node, .int .i64 o.parent, .string o.name, .string o.value] 30)).heap.size (w.alloc (.cells #[.int .i64 o.time, .int .i64 o.repl, .int .i64 o.kind, .int .i64 o.node, .int .i64 o.parent, .string o.name, .string o.value] 30)) wr) (fun i _ => l.length - (intOf i).toNat)
  case atStart => exact ⟨0, by omega, rfl, fun j hj h => by omega, Below.refl _ _⟩
  case round =>
    obtain ⟨k, hkl, rfl, hal, hw⟩ := hrel
    have HL := hide hal
    clear hal
    by_cases h : k < l.length
    · obtain ⟨b1, o1, rfl, hlt1, ho1⟩ := HA.out k h
      obtain ⟨c0, c1, c2, c3, c4, c5, c6⟩ := ho1.block (w' := wr) ((hw.block b1 (by simp; omega)).trans (HA0.out.block b1 hlt1))
      obtain ⟨bx, ox, eb, hltb, hob⟩ := HN.out 0 (by simp)
      cases eb
      obtain ⟨d0, d1, d2, d3, d4, d5, d6⟩ := hob.block (w' := wr) (hw.block _ hltb)
      simp only [List.getElem_cons_zero, Nat.zero_mul, Nat.zero_add] at d0 d1 d2 d3 d4 d5 d6
      have hi0 : (0 : Int) ≤ (k : Int) := by omega
      have hi1 : (k : Int) < (l.length : Int) := by omega
      have heql := fun W => eql_ops l[k] o W
      unfold OpV.agg at heql
      clear ho1 hob hltb
      cases hs : sameOp l[k] o
      · simp only [hs] at heql
        have HNe := hide hs
        clear hs
        go_wp2_with fail
        (try go_quiet (fail))
        (try go_wp2)
        go_roundw
        case rel =>
          refine ⟨k + 1, by omega, by go_num, fun j hj hjk => ?_, by first | exact hw | exact hw.trans ((drewN_below wr nq).mono hw.size) | fail⟩
          rcases Nat.lt_or_ge j k with h' | h'
          · exact HL.out j hj h'
          · obtain rfl : j = k := by omega
            exact HNe.out
        case measure => simp [intOf]; omega
      · simp only [hs] at heql
        have HNe := hide hs
        clear hs
        go_wp2_with fail
        (try go_quiet (fail))
        (try go_wp2)
        go_ret
        exact ⟨by rw [any_at h HNe.out]; rfl, by first | exact HA0.out.trans (hw.mono HA0.out.size) | exact HA0.out.trans ((hw.trans ((drewN_below wr nq).mono hw.size)).mono HA0.out.size) | fail⟩
    · obtain rfl : k = l.length := by omega
      go_wp2
      go_ret
      exact ⟨by rw [any_upto (fun j hj => HL.out j hj hj)]; rfl, HA0.out.trans (hw.mono HA0.out.size)⟩
theorem same_comm (a b : OpV) : sameOp a b = sameOp b a := by
  by_cases h : a = b
  · rw [h]
  · rw [same_false h, same_false (fun e => h e.symm)]
set_option maxRecDepth 100000 in
set_option maxHeartbeats 1000000 in
theorem index_any (l : List OpV) (o : OpV) (ao : Option Addr) (cap : Nat) (w : World) (hl : l.length ≤ 150) (hA : OpsAt w ao l) :
    Calls Tryz.prog 195 #[.slice ao l.length cap, o.agg] w fun e w' => ∃ n : Int, e = .returned (.int .i64 n) ∧ decide (0 ≤ n) = (l.any fun x => sameOp x o) ∧ Below w.heap.size w w' := by
  have HA := hide hA
  have HA0 := hide ((Below.refl w.heap.size w).alloc (Nat.le_refl _) (.cells #[.int .i64 o.time, .int .i64 o.repl, .int .i64 o.kind, .int .i64 o.node, .int .i64 o.parent, .string o.name, .string o.value] 30))
  have HN := hide (one_ops w o 30)
  clear hA
  unfold OpV.agg
  go_enter Tryz.func195, Tryz.ntmps195
  go_wp2
  go_loopw [5, 8] (fun v5 i wr => ∃ k : Nat, k ≤ l.length ∧ i = .int .i64 k ∧ (∀ j (hj : j < l.length), j < k → sameOp l[j] o = false) ∧ Below (w.alloc (.cells #[.int .i64 o.time, .int .i64 o.repl, .int .i64 o.kind, .int .i64 o.node, .int .i64 o.parent, .string o.name, .string o.value] 30)).heap.size (w.alloc (.cells #[.int .i64 o.time, .int .i64 o.repl, .int .i64 o.kind, .int .i64 o.node, .int .i64 o.parent, .string o.name, .string o.value] 30)) wr) (fun _ i _ => l.length - (intOf i).toNat)
  case atStart => exact ⟨0, by omega, rfl, fun j hj h => by omega, Below.refl _ _⟩
  case round =>
    obtain ⟨k, hkl, rfl, hal, hw⟩ := hrel
    have HL := hide hal
    clear hal
    by_cases h : k < l.length
    · obtain ⟨b1, o1, rfl, hlt1, ho1⟩ := HA.out k h
      obtain ⟨c0, c1, c2, c3, c4, c5, c6⟩ := ho1.block (w' := wr) ((hw.block b1 (by simp; omega)).trans (HA0.out.block b1 hlt1))
      obtain ⟨bx, ox, eb, hltb, hob⟩ := HN.out 0 (by simp)
      cases eb
      obtain ⟨d0, d1, d2, d3, d4, d5, d6⟩ := hob.block (w' := wr) (hw.block _ hltb)
      simp only [List.getElem_cons_zero, Nat.zero_mul, Nat.zero_add] at d0 d1 d2 d3 d4 d5 d6
      have hi0 : (0 : Int) ≤ (k : Int) := by omega
      have hi1 : (k : Int) < (l.length : Int) := by omega
      have heql := fun W => (eql_ops o l[k] W).trans (by rw [same_comm o l[k]])
      unfold OpV.agg at heql
      clear ho1 hob hltb
      cases hs : sameOp l[k] o
      · simp only [hs] at heql
        have HNe := hide hs
        clear hs
        go_wp2_with fail
        (try go_quiet (fail))
        (try go_wp2)
        go_roundw
        case rel =>
          refine ⟨k + 1, by omega, by go_num, fun j hj hjk => ?_, by first | exact hw | exact hw.trans ((drewN_below wr nq).mono hw.size) | fail⟩
          rcases Nat.lt_or_ge j k with h' | h'
          · exact HL.out j hj h'
          · obtain rfl : j = k := by omega
            exact HNe.out
        case measure => simp [intOf]; omega
      · simp only [hs] at heql
        have HNe := hide hs
        clear hs
        go_wp2_with fail
        (try go_quiet (fail))
        (try go_wp2)
        go_ret
        exact ⟨(k : Int), rfl, by rw [any_at h HNe.out]; simp, by first | exact HA0.out.trans (hw.mono HA0.out.size) | exact HA0.out.trans ((hw.trans ((drewN_below wr nq).mono hw.size)).mono HA0.out.size) | fail⟩
    · obtain rfl : k = l.length := by omega
      go_wp2
      go_ret
      exact ⟨-1, rfl, by rw [any_upto (fun j hj => HL.out j hj hj)]; rfl, HA0.out.trans (hw.mono HA0.out.size)⟩
end Go.Proofs.YtfkgmkcndchkjaaGreatDoor.OpR
namespace Go.Proofs.YtfkgmkcndchkjaaGreatDoor.OpR
open Go.ChangeShapes Go.WideShapes Go.ChangeAt Go.RowKit
set_option linter.unusedVariables false

set_option maxRecDepth 100000 in
set_option maxHeartbeats 1000000 in
theorem once_any (m : List OpV) (g cap : Nat) (w : World) (hm : m.length ≤ 800) (hc : m.length ≤ cap) (hR : RowB w g 30 (cap * 7)) (hA : OpsAt w (some ⟨g, 0, none⟩) m) :
    Calls Tryz.prog 146 #[.slice (some ⟨g, 0, none⟩) m.length cap] w fun e w' => w.grownBy w' (some g) ∧ ((∃ k, once [] m = some k ∧ e = .returned (.tuple #[.slice (some ⟨g, 0, none⟩) k.length k.length, .bool true]) ∧ OpsAt w' (some ⟨g, 0, none⟩) k) ∨ (once [] m = none ∧ e = .returned (.tuple #[.slice none 0 0, .bool false]))) := by
  have HR : Hid (RowB w g 30 (cap * 7)) := ⟨hR⟩
  have HA : Hid (OpsAt w (some ⟨g, 0, none⟩) m) := ⟨hA⟩
  clear hR hA
  go_enter Tryz.func146, Tryz.ntmps146
  go_wp2
  go_loopw [4, 9] (fun kv iv wr => ∃ i K cur, kv = .int .i64 ((List.length K : Nat) : Int) ∧ iv = .int .i64 ((i : Nat) : Int) ∧ Look w wr g cap i m K cur) (fun _ iv _ => m.length - (intOf iv).toNat)
  case atStart => exact ⟨0, [], m, rfl, rfl, ⟨by omega, by simp, rfl, by simp, rfl, HA.out, HR.out, rfl, grown_refl _ _⟩⟩
  case round =>
    obtain ⟨i, K, cur, rfl, rfl, hL⟩ := hrel
    have HL : Hid (Look w wr g cap i m K cur) := ⟨hL⟩
    have hile := hL.ile
    have hkle := hL.kle
    by_cases h : i < m.length
    · obtain ⟨hci, hcv⟩ := hL.cur_at h
      obtain ⟨o, ho⟩ : ∃ o, m[i] = o := ⟨_, rfl⟩
      have HOo : Hid (m[i] = o) := ⟨ho⟩
      have hat := hL.lies.at0 hci
      rw [hcv, ho] at hat
      obtain ⟨c0, c1, c2, c3, c4, c5, c6⟩ := hat
      have hdr : m.drop i = o :: m.drop (i + 1) := by rw [List.drop_eq_getElem_cons h, ho]
      have HDr : Hid (m.drop i = o :: m.drop (i + 1)) := ⟨hdr⟩
      have hglt := hL.row.lt
      have hQ : VarO wr.heap.size wr (wr.alloc (.cells #[.int .i64 o.time, .int .i64 o.repl, .int .i64 o.kind, .int .i64 o.node, .int .i64 o.parent, .string o.name, .string o.value] 30)) wr.heap.size 30 o := ⟨(Below.refl _ _).alloc (Nat.le_refl _) _, heap_alloc_new wr _⟩
      have hQd := hQ.step (Below.refl _ _).drew (by simp)
      have hi0 : (0 : Int) ≤ (i : Int) := by omega
      have hi1 : (i : Int) < (m.length : Int) := by omega
      clear hL hcv ho hdr
      by_cases hK : K.length = 0
      · obtain rfl := List.eq_nil_of_length_eq_zero hK
        obtain ⟨X, hX⟩ : ∃ X, X = (wr.alloc (.cells #[.int .i64 o.time, .int .i64 o.repl, .int .i64 o.kind, .int .i64 o.node, .int .i64 o.parent, .string o.name, .string o.value] 30)).drew := ⟨_, rfl⟩
        have hQX : VarO wr.heap.size wr X wr.heap.size 30 o := by rw [hX]; exact hQd
        have HNew : Hid (Look w (seven X g (([] : List OpV).length * 7) o) g cap (i + 1) m [o] (cur.set 0 o)) := ⟨by
          have h1 := HL.out.keep h hc hQX.below (by rw [HDr.out, HOo.out]; rfl)
          rw [HOo.out] at h1
          exact h1⟩
        clear hQ hQd hkle hK
        have hm0 : (0 : Int) < (m.length : Int) := by omega
        rw [show ((([] : List OpV).length : Nat) : Int) = 0 from rfl]
        go_wp2
        go_region
        rw [← hX]
        clear hX c0 c1 c2 c3 c4 c5 c6
        have RW := HL.out.row.below hQX.below
        obtain ⟨v0, d0⟩ := RW.cell (i := 0) (by omega)
        obtain ⟨v1, d1⟩ := RW.cell (i := 1) (by omega)
        obtain ⟨v2, d2⟩ := RW.cell (i := 2) (by omega)
        obtain ⟨v3, d3⟩ := RW.cell (i := 3) (by omega)
        obtain ⟨v4, d4⟩ := RW.cell (i := 4) (by omega)
        obtain ⟨v5, d5⟩ := RW.cell (i := 5) (by omega)
        obtain ⟨v6, d6⟩ := RW.cell (i := 6) (by omega)
        have f0 := RW.free (0)
        have f1 := RW.free (1)
        have f2 := RW.free (2)
        have f3 := RW.free (3)
        have f4 := RW.free (4)
        have f5 := RW.free (5)
        have f6 := RW.free (6)
        obtain ⟨k0, k1, k2, k3, k4, k5, k6⟩ := hQX.cells
        clear hQX RW
        go_wp2
        go_roundw
        case rel => exact ⟨i + 1, [o], cur.set 0 o, rfl, by go_num, HNew.out⟩
        case measure => simp [intOf]; omega
      · obtain ⟨n, hn⟩ : ∃ n, K.length = n + 1 := ⟨K.length - 1, by omega⟩
        obtain ⟨hcn, hlast⟩ := HL.out.last hn
        obtain ⟨x, hx⟩ : ∃ x, cur[n] = x := ⟨_, rfl⟩
        have hxat : OpAt wr g (n * 7) x := by rw [← hx]; exact HL.out.lies.at0 hcn
        rw [hx] at hlast
        have HX : Hid (OpAt wr g (n * 7) x) := ⟨hxat⟩
        have HLast : Hid (K.getLast? = some x) := ⟨hlast⟩
        have HN : Hid (K.length = n + 1) := ⟨hn⟩
        have hT : (((n : Int) + 1).toNat) = n + 1 := by omega
        have hn0 : (0 : Int) ≤ (n : Int) := by omega
        have hn1 : (n : Int) < (m.length : Int) := by omega
        have hn2 : (0 : Int) ≤ (n : Int) + 1 := by omega
        have hn3 : (n : Int) + 1 < (m.length : Int) := by omega
        have hne1 : ((n : Int) + 1 == 0) = false := by simp; omega
        have hne2 : ¬ ((n : Int) + 1 = 0) := by omega
        have hW : IntKind.i64.wrap (n : Int) = (n : Int) := by rw [IntKind.wrap_i64]; omega
        have hW2 : wrap64 (n : Int) = (n : Int) := by unfold wrap64; omega
        have hcall := fun W => iAhead_any x o W
        unfold OpV.agg at hcall
        rw [show ((K.length : Nat) : Int) = (n : Int) + 1 by omega]
        clear hx hxat hlast hK hn
        go_wp2
        clear c0 c1 c2 c3 c4 c5 c6
        obtain ⟨c0, c1, c2, c3, c4, c5, c6⟩ := HX.out.block (hQd.below.block g hglt)
        obtain ⟨k0, k1, k2, k3, k4, k5, k6⟩ := hQd.cells
        cases ha : ahead x o
        · rw [ha] at hcall
          go_region_held3 (fun w' => w'.cell? ⟨g, n * 7, none⟩ = some (.int .i64 x.time) ∧ w'.cell? ⟨g, n * 7 + 1, none⟩ = some (.int .i64 x.repl) ∧ w'.cell? ⟨g, n * 7 + 2, none⟩ = some (.int .i64 x.kind) ∧ w'.cell? ⟨g, n * 7 + 3, none⟩ = some (.int .i64 x.node) ∧ w'.cell? ⟨g, n * 7 + 4, none⟩ = some (.int .i64 x.parent) ∧ w'.cell? ⟨g, n * 7 + 5, none⟩ = some (.string x.name) ∧ w'.cell? ⟨g, n * 7 + 6, none⟩ = some (.string x.value) ∧ w'.cell? ⟨wr.heap.size, 0, none⟩ = some (.int .i64 o.time) ∧ w'.cell? ⟨wr.heap.size, 1, none⟩ = some (.int .i64 o.repl) ∧ w'.cell? ⟨wr.heap.size, 2, none⟩ = some (.int .i64 o.kind) ∧ w'.cell? ⟨wr.heap.size, 3, none⟩ = some (.int .i64 o.node) ∧ w'.cell? ⟨wr.heap.size, 4, none⟩ = some (.int .i64 o.parent) ∧ w'.cell? ⟨wr.heap.size, 5, none⟩ = some (.string o.name) ∧ w'.cell? ⟨wr.heap.size, 6, none⟩ = some (.string o.value)) (exact ⟨c0, c1, c2, c3, c4, c5, c6, k0, k1, k2, k3, k4, k5, k6⟩) (first | (go_at_call 133; refine (hcall _).mono ?_; rintro e x1 ⟨rfl, hx1⟩; have hQ1 := hQd.step hx1 (by have := hQd.below.size; omega); obtain ⟨c0, c1, c2, c3, c4, c5, c6⟩ := HX.out.block (hQ1.below.block g hglt); obtain ⟨k0, k1, k2, k3, k4, k5, k6⟩ := hQ1.cells))
          clear hcall
          clear hQ hQd
          have hneq := neq_ops x o
          unfold OpV.agg at hneq
          by_cases he : x = o
          · rw [same_true he] at hneq
            have HSame : Hid (once K (m.drop i) = once K (m.drop (i + 1))) := ⟨by rw [HDr.out, once_same (by rw [HLast.out, he])]⟩
            clear he
            go_wp2
            go_region_held3 (fun w' => w'.cell? ⟨g, n * 7, none⟩ = some (.int .i64 x.time) ∧ w'.cell? ⟨g, n * 7 + 1, none⟩ = some (.int .i64 x.repl) ∧ w'.cell? ⟨g, n * 7 + 2, none⟩ = some (.int .i64 x.kind) ∧ w'.cell? ⟨g, n * 7 + 3, none⟩ = some (.int .i64 x.node) ∧ w'.cell? ⟨g, n * 7 + 4, none⟩ = some (.int .i64 x.parent) ∧ w'.cell? ⟨g, n * 7 + 5, none⟩ = some (.string x.name) ∧ w'.cell? ⟨g, n * 7 + 6, none⟩ = some (.string x.value) ∧ w'.cell? ⟨wr.heap.size, 0, none⟩ = some (.int .i64 o.time) ∧ w'.cell? ⟨wr.heap.size, 1, none⟩ = some (.int .i64 o.repl) ∧ w'.cell? ⟨wr.heap.size, 2, none⟩ = some (.int .i64 o.kind) ∧ w'.cell? ⟨wr.heap.size, 3, none⟩ = some (.int .i64 o.node) ∧ w'.cell? ⟨wr.heap.size, 4, none⟩ = some (.int .i64 o.parent) ∧ w'.cell? ⟨wr.heap.size, 5, none⟩ = some (.string o.name) ∧ w'.cell? ⟨wr.heap.size, 6, none⟩ = some (.string o.value)) (exact ⟨c0, c1, c2, c3, c4, c5, c6, k0, k1, k2, k3, k4, k5, k6⟩) (fail)
            clear hW hW2
            go_wp2
            go_roundw
            case rel => exact ⟨i + 1, K, cur, by rw [HN.out]; rfl, by go_num, HL.out.skip h hQ1.below.drew HSame.out⟩
            case measure => simp [intOf]; omega
          · rw [same_false he] at hneq
            have HNone : Hid (once [] m = none) := ⟨by rw [← HL.out.same, HDr.out, once_wrong HLast.out ha he]⟩
            clear he
            go_wp2
            go_region_held3 (fun w' => w'.cell? ⟨g, n * 7, none⟩ = some (.int .i64 x.time) ∧ w'.cell? ⟨g, n * 7 + 1, none⟩ = some (.int .i64 x.repl) ∧ w'.cell? ⟨g, n * 7 + 2, none⟩ = some (.int .i64 x.kind) ∧ w'.cell? ⟨g, n * 7 + 3, none⟩ = some (.int .i64 x.node) ∧ w'.cell? ⟨g, n * 7 + 4, none⟩ = some (.int .i64 x.parent) ∧ w'.cell? ⟨g, n * 7 + 5, none⟩ = some (.string x.name) ∧ w'.cell? ⟨g, n * 7 + 6, none⟩ = some (.string x.value) ∧ w'.cell? ⟨wr.heap.size, 0, none⟩ = some (.int .i64 o.time) ∧ w'.cell? ⟨wr.heap.size, 1, none⟩ = some (.int .i64 o.repl) ∧ w'.cell? ⟨wr.heap.size, 2, none⟩ = some (.int .i64 o.kind) ∧ w'.cell? ⟨wr.heap.size, 3, none⟩ = some (.int .i64 o.node) ∧ w'.cell? ⟨wr.heap.size, 4, none⟩ = some (.int .i64 o.parent) ∧ w'.cell? ⟨wr.heap.size, 5, none⟩ = some (.string o.name) ∧ w'.cell? ⟨wr.heap.size, 6, none⟩ = some (.string o.value)) (exact ⟨c0, c1, c2, c3, c4, c5, c6, k0, k1, k2, k3, k4, k5, k6⟩) (fail)
            go_wp2
            go_ret2
            exact ⟨grown_trans HL.out.grown (mk_below hQ1.below.drew), .inr ⟨HNone.out, rfl⟩⟩
        · rw [ha] at hcall
          go_region_held3 (fun w' => w'.cell? ⟨g, n * 7, none⟩ = some (.int .i64 x.time) ∧ w'.cell? ⟨g, n * 7 + 1, none⟩ = some (.int .i64 x.repl) ∧ w'.cell? ⟨g, n * 7 + 2, none⟩ = some (.int .i64 x.kind) ∧ w'.cell? ⟨g, n * 7 + 3, none⟩ = some (.int .i64 x.node) ∧ w'.cell? ⟨g, n * 7 + 4, none⟩ = some (.int .i64 x.parent) ∧ w'.cell? ⟨g, n * 7 + 5, none⟩ = some (.string x.name) ∧ w'.cell? ⟨g, n * 7 + 6, none⟩ = some (.string x.value) ∧ w'.cell? ⟨wr.heap.size, 0, none⟩ = some (.int .i64 o.time) ∧ w'.cell? ⟨wr.heap.size, 1, none⟩ = some (.int .i64 o.repl) ∧ w'.cell? ⟨wr.heap.size, 2, none⟩ = some (.int .i64 o.kind) ∧ w'.cell? ⟨wr.heap.size, 3, none⟩ = some (.int .i64 o.node) ∧ w'.cell? ⟨wr.heap.size, 4, none⟩ = some (.int .i64 o.parent) ∧ w'.cell? ⟨wr.heap.size, 5, none⟩ = some (.string o.name) ∧ w'.cell? ⟨wr.heap.size, 6, none⟩ = some (.string o.value)) (exact ⟨c0, c1, c2, c3, c4, c5, c6, k0, k1, k2, k3, k4, k5, k6⟩) (first | (go_at_call 133; refine (hcall _).mono ?_; rintro e x1 ⟨rfl, hx1⟩; have hQ1 := hQd.step hx1 (by have := hQd.below.size; omega); obtain ⟨c0, c1, c2, c3, c4, c5, c6⟩ := HX.out.block (hQ1.below.block g hglt); obtain ⟨k0, k1, k2, k3, k4, k5, k6⟩ := hQ1.cells))
          clear hcall
          clear hW hW2 hne1 hne2
          have HNew : Hid (Look w (seven x1 g ((n + 1) * 7) o) g cap (i + 1) m (K ++ [o]) (cur.set (n + 1) o)) := ⟨by
            have h1 := HL.out.keep h hc hQ1.below (by rw [HDr.out, HOo.out]; exact once_more HLast.out ha)
            rw [HOo.out, HN.out] at h1
            exact h1⟩
          have RW := HL.out.row.below hQ1.below
          clear c0 c1 c2 c3 c4 c5 c6
          obtain ⟨v0, d0⟩ := RW.cell (i := (n + 1) * 7) (by omega)
          obtain ⟨v1, d1⟩ := RW.cell (i := (n + 1) * 7 + 1) (by omega)
          obtain ⟨v2, d2⟩ := RW.cell (i := (n + 1) * 7 + 2) (by omega)
          obtain ⟨v3, d3⟩ := RW.cell (i := (n + 1) * 7 + 3) (by omega)
          obtain ⟨v4, d4⟩ := RW.cell (i := (n + 1) * 7 + 4) (by omega)
          obtain ⟨v5, d5⟩ := RW.cell (i := (n + 1) * 7 + 5) (by omega)
          obtain ⟨v6, d6⟩ := RW.cell (i := (n + 1) * 7 + 6) (by omega)
          have f0 := RW.free ((n + 1) * 7)
          have f1 := RW.free ((n + 1) * 7 + 1)
          have f2 := RW.free ((n + 1) * 7 + 2)
          have f3 := RW.free ((n + 1) * 7 + 3)
          have f4 := RW.free ((n + 1) * 7 + 4)
          have f5 := RW.free ((n + 1) * 7 + 5)
          have f6 := RW.free ((n + 1) * 7 + 6)
          clear hQ hQd hQ1 RW
          go_wp2
          go_roundw
          case rel => exact ⟨i + 1, K ++ [o], cur.set (n + 1) o, by rw [List.length_append, HN.out]; go_num, by go_num, HNew.out⟩
          case measure => simp [intOf]; omega
    · obtain rfl : i = m.length := by omega
      have hk : once [] m = some K := by rw [← hL.same, List.drop_length]; rfl
      have hkl : K.length ≤ m.length := hkle
      have HK : Hid (once [] m = some K) := ⟨hk⟩
      have hsl := fun W => slice_cut W g 0 m.length cap K.length ((K.length : Nat) : Int) rfl (by omega)
      clear hL hk
      go_wp2
      go_ret2
      refine ⟨HL.out.grown, .inl ⟨K, HK.out, rfl, ?_⟩⟩
      have h1 := HL.out.lies.take K.length
      rwa [HL.out.take] at h1
end Go.Proofs.YtfkgmkcndchkjaaGreatDoor.OpR
namespace Go.Proofs.YtfkgmkcndchkjaaGreatDoor.OpR
open Go.ChangeShapes Go.WideShapes Go.ChangeAt Go.RowKit
set_option linter.unusedVariables false

theorem right_sizes {o : OpV} (h : opRight o = true) : o.name.size ≤ 1048576 ∧ o.value.size ≤ 1048576 := by
  unfold opRight kindRight isIn at h
  simp only [Bool.and_eq_true, decide_eq_true_eq] at h
  obtain ⟨⟨⟨⟨⟨h1, h2⟩, h3, h4⟩, h5, h6⟩, h7⟩, h8⟩ := h
  have h9 := ((NameR.nmB_iff o.name).1 h7).2.1
  refine ⟨by omega, ?_⟩
  by_cases k1 : o.kind = 1
  · rw [if_pos k1] at h8
    simp only [Bool.and_eq_true, decide_eq_true_eq] at h8
    obtain ⟨_, h12⟩ := h8
    have e : o.value.toList = [] := by simpa using h12
    have e2 : o.value.data.toList = [] := by rw [← e, ByteArray.toList_eq]
    have hz : o.value.size = 0 := by have := congrArg List.length e2; simpa using this
    omega
  · rw [if_neg k1] at h8
    by_cases k2 : o.kind = 2
    · rw [if_pos k2] at h8
      simp only [Bool.and_eq_true, decide_eq_true_eq] at h8
      omega
    · rw [if_neg k2] at h8
      cases h8
/-- An answer of impl's: the row that is told is new, as long as it is told, or nil. -/
def OutIn (w w' : World) (e : Ending) (r : List OpV × Int × Int) : Prop := ∃ v, e = .returned (.agg #[v, .int .i64 r.2.1, .int .i64 r.2.2]) ∧ ((∃ g, v = .slice (some ⟨g, 0, none⟩) r.1.length r.1.length ∧ w.heap.size ≤ g ∧ OpsIn w' g 30 r.1) ∨ (v = .slice none 0 0 ∧ r.1 = [])) ∧ Below w.heap.size w w'
theorem OpsIn.setOther {w : World} {g b i : Nat} {T : TypeId} {l : List OpV} {x : Value} (h : OpsIn w g T l) (hne : g ≠ b) : OpsIn (w.setCell ⟨b, i, none⟩ x) g T l := by
  unfold OpsIn at *
  rw [heap_setCell_other _ _ _ _ hne]; exact h
theorem row_of {w : World} {base g cap : Nat} {T : TypeId} {l : List OpV} (h : w.ownsRow base T 7 (.slice (some ⟨g, 0, none⟩) l.length cap) l.length (flat l)) : RowB w g T (cap * 7) := by
  rcases h.2 with ⟨e, _⟩ | ⟨g', cap', cur, e, _, hg, _, _, hs, _⟩
  · simp at e
  · simp only [Value.slice.injEq, Option.some.injEq, Addr.mk.injEq] at e
    obtain ⟨⟨rfl, _⟩, _, rfl⟩ := e
    exact ⟨cur, hg, hs⟩
/-- What is told of what one of each stamp makes. -/
theorem res_of_none {l m s : List OpV} (hl : Strict l) (hs : s.Perm m) (ho : Orderd s) (h : once [] (mrg l s) = none) : addRes l m = ([], 0, 7) := res_none ((once_add hl hs ho).2 h)
theorem res_of_full {l m s k : List OpV} (hl : Strict l) (hs : s.Perm m) (ho : Orderd s) (h : once [] (mrg l s) = some k) (hk : 150 < k.length) : addRes l m = ([], 0, 9) := res_full ((once_add hl hs ho).1 k h) hk
theorem res_of_some {l m s k : List OpV} (hl : Strict l) (hs : s.Perm m) (ho : Orderd s) (h : once [] (mrg l s) = some k) (hk : ¬ 150 < k.length) : addRes l m = (k, (k.length : Int) - l.length, 0) := res_some ((once_add hl hs ho).1 k h) hk
theorem once_right {l m s k : List OpV} (hl : LogR l) (hm : OpsR m) (hs : s.Perm m) (ho : Orderd s) (h : once [] (mrg l s) = some k) : (∀ o ∈ k, o.name.size ≤ 1048576 ∧ o.value.size ≤ 1048576) ∧ k.length ≤ 300 := by
  have hS := rises_strict hl.2.2
  have h1 := (once_spec (mrg l s) [] (by simp [Strict]) (by simpa using mrg_ord (strict_ord hS) ho)).1 k h
  refine ⟨fun o ho => ?_, ?_⟩
  · have h2 := (h1.2 o).1 ho
    rw [List.nil_append, (mrg_perm l s).mem_iff, List.mem_append, hs.mem_iff] at h2
    rcases h2 with h2 | h2
    · obtain ⟨j, hj, rfl⟩ := List.getElem_of_mem h2
      exact right_sizes (hl.1 j hj)
    · obtain ⟨j, hj, rfl⟩ := List.getElem_of_mem h2
      exact right_sizes (hm.2.1 j hj)
  · have h2 := once_len (mrg l s) [] k h
    rw [mrg_len, hs.length_eq] at h2
    have := hl.2.1
    have := hm.1
    simp at h2
    omega

set_option maxRecDepth 100000 in
set_option maxHeartbeats 1000000 in
theorem iLogAdd_any (l m : List OpV) (ao1 ao2 : Option Addr) (cap1 cap2 : Nat) (w : World) (hl : l.length ≤ maxLen) (hm : m.length ≤ maxLen) (hc1 : l.length ≤ cap1) (hc2 : m.length ≤ cap2) (hA : OpsAt w ao1 l) (hC : OpsAt w ao2 m) (hS : Sized l) (hT : Sized m) :
    Calls Tryz.prog 111 #[.slice ao1 l.length cap1, .slice ao2 m.length cap2] w fun e w' => OutIn w w' e (logRes l m) := by
  have h1 := fun W (hW : Below w.heap.size w W) => iLog_any l ao1 cap1 W hl (hA.stays hW) hS
  have h2 := fun W (hW : Below w.heap.size w W) => iOps_any m ao2 cap2 W hm hc2 (hC.stays hW) hT
  have HA : Hid (OpsAt w ao1 l) := ⟨hA⟩
  have HC : Hid (OpsAt w ao2 m) := ⟨hC⟩
  have Hc1 : Hid (l.length ≤ cap1) := ⟨hc1⟩
  have Hc2 : Hid (m.length ≤ cap2) := ⟨hc2⟩
  clear hA hC hS hT hc1 hc2
  unfold maxLen at hl hm
  have hb0 : Below w.heap.size w (w.alloc (.cells #[.slice none 0 0, .int .i64 0, .int .i64 0] 141)) := (Below.refl _ _).alloc (Nat.le_refl _) _
  by_cases h400 : 400 < l.length ∨ 400 < m.length
  · have HF : Hid (logRes l m = ([], 0, 2)) := ⟨log_far h400⟩
    by_cases ha : 400 < l.length
    · go_enter Tryz.func111, Tryz.ntmps111
      go_wp2
      refine bodyPost_ret (v := .agg #[.slice none 0 0, .int .i64 0, .int .i64 2]) (by simp [results, Tryz.results111, go_sem]) rfl ⟨.slice none 0 0, by rw [HF.out], .inr ⟨rfl, by rw [HF.out]⟩, ?_⟩
      exact (Below.refl _ _).alloc (Nat.le_refl _) _
    · have hb : 400 < m.length := by omega
      clear h400
      go_enter Tryz.func111, Tryz.ntmps111
      go_wp2
      refine bodyPost_ret (v := .agg #[.slice none 0 0, .int .i64 0, .int .i64 2]) (by simp [results, Tryz.results111, go_sem]) rfl ⟨.slice none 0 0, by rw [HF.out], .inr ⟨rfl, by rw [HF.out]⟩, ?_⟩
      exact (Below.refl _ _).alloc (Nat.le_refl _) _
  · have ha : ¬ 400 < l.length := by omega
    have hb : ¬ 400 < m.length := by omega
    have HN : Hid (¬ (400 < l.length ∨ 400 < m.length)) := ⟨h400⟩
    clear h400
    have hres : ∀ W, Below (w.alloc (.cells #[.slice none 0 0, .int .i64 0, .int .i64 0] 141)).heap.size (w.alloc (.cells #[.slice none 0 0, .int .i64 0, .int .i64 0] 141)) W → W.heap[w.heap.size]? = some (.cells #[.slice none 0 0, .int .i64 0, .int .i64 0] 141 (0, 0)) := fun W hW => (hW.block w.heap.size (by simp)).trans (heap_alloc_new w _)
    cases hlr : logRight l
    · have HF : Hid (logRes l m = ([], 0, 1)) := ⟨log_form HN.out (fun hh => by rw [hlr] at hh; exact absurd hh.1 (by decide))⟩
      rw [hlr] at h1
      clear hlr h2
      go_enter Tryz.func111, Tryz.ntmps111
      go_wp2_with (first | (go_at_call 136; refine (h1 _ hb0).mono ?_; rintro e w1 ⟨rfl, hb1⟩; have hB1 := hb0.trans (hb1.mono (by simp)); obtain ⟨r0, r1, r2, f0, f1, f2, hrlt⟩ := cells3 (hres w1 hb1)))
      refine bodyPost_ret (v := .agg #[.slice none 0 0, .int .i64 0, .int .i64 1]) (by simp [results, Tryz.results111, go_sem, r0, r1, r2]) rfl ⟨.slice none 0 0, by rw [HF.out], .inr ⟨rfl, by rw [HF.out]⟩, ?_⟩
      exact ((hB1.setCell (Nat.le_refl _) _).setCell (Nat.le_refl _) _).setCell (Nat.le_refl _) _
    · rw [hlr] at h1
      have hL := log_of hlr
      have HLr : Hid (logRight l = true) := ⟨hlr⟩
      clear hlr
      cases hor : opsRight m
      · have HF : Hid (logRes l m = ([], 0, 1)) := ⟨log_form HN.out (fun hh => by rw [hor] at hh; exact absurd hh.2 (by decide))⟩
        rw [hor] at h2
        clear hor hL
        go_enter Tryz.func111, Tryz.ntmps111
        go_wp2_with (first | (go_at_call 136; refine (h1 _ hb0).mono ?_; rintro e w1 ⟨rfl, hb1⟩; have hB1 := hb0.trans (hb1.mono (by simp))) | (go_at_call 96; refine (h2 _ hB1).mono ?_; rintro e w2 ⟨rfl, hb2⟩; have hB2 := hB1.trans (hb2.mono hB1.size); obtain ⟨r0, r1, r2, f0, f1, f2, hrlt⟩ := cells3 (hres w2 (hb1.trans (hb2.mono hb1.size)))))
        refine bodyPost_ret (v := .agg #[.slice none 0 0, .int .i64 0, .int .i64 1]) (by simp [results, Tryz.results111, go_sem, r0, r1, r2]) rfl ⟨.slice none 0 0, by rw [HF.out], .inr ⟨rfl, by rw [HF.out]⟩, ?_⟩
        exact ((hB2.setCell (Nat.le_refl _) _).setCell (Nat.le_refl _) _).setCell (Nat.le_refl _) _
      · have HF : Hid (logRes l m = addRes l m) := ⟨log_add HN.out ⟨HLr.out, hor⟩⟩
        have hM := opsR_of hor
        have HL : Hid (LogR l) := ⟨hL⟩
        have HM : Hid (OpsR m) := ⟨hM⟩
        have hs := fun W (hW : Below w.heap.size w W) => sorted_any m.length m ao2 cap2 W (Nat.le_refl _) (by omega) Hc2.out (HC.out.stays hW)
        have hg := fun s (hs : s.length ≤ 400) (bo : Option Addr) (cb : Nat) (hcb : s.length ≤ cb) W (hW : Below w.heap.size w W) (hB : OpsAt W bo s) => merged_any l s ao1 bo cap1 cb W (by omega) hs Hc1.out hcb (HA.out.stays hW) hB
        have Hg : Hid (∀ s (hs : List.length s ≤ 400) (bo : Option Addr) (cb : Nat) (hcb : s.length ≤ cb) W (hW : Below w.heap.size w W) (hB : OpsAt W bo s), Calls Tryz.prog 147 #[.slice ao1 l.length cap1, .slice bo s.length cb, aheadFn] W fun e w' => ∃ v, e = .returned v ∧ OwnAt w' W.heap.size 30 v (mrg l s) ∧ Below W.heap.size W w') := ⟨hg⟩
        rw [hor] at h2
        unfold aheadFn at hs Hg
        clear hor hL hM hg
        go_enter Tryz.func111, Tryz.ntmps111
        go_wp2_with (first | (go_at_call 136; refine (h1 _ hb0).mono ?_; rintro e w1 ⟨rfl, hb1⟩; have hB1 := hb0.trans (hb1.mono (by simp)); clear h1) | (go_at_call 96; refine (h2 _ hB1).mono ?_; rintro e w2 ⟨rfl, hb2⟩; have hB2 := hB1.trans (hb2.mono hB1.size); have hK2 := hb1.trans (hb2.mono hb1.size); clear h2) | (go_at_call 132; refine (hs _ hB2).mono ?_; rintro e w3 ⟨v3, s3, rfl, hp3, ho3, hw3, hb3⟩; have hB3 := hB2.trans (hb3.mono hB2.size); have hK3 := hK2.trans (hb3.mono hK2.size); have hl3 : Hid (s3.length ≤ 400) := ⟨by rw [hp3.length_eq]; omega⟩; obtain ⟨a3, c3, rfl, hc3, hA3⟩ := owns_at hw3; clear hs hw3) | (go_at_call 147; refine (Hg.out s3 hl3.out a3 c3 hc3 _ hB3 hA3).mono ?_; rintro e w4 ⟨v4, rfl, hO4, hb4⟩; have hB4 := hB3.trans (hb4.mono hB3.size); have hK4 := hK3.trans (hb4.mono hK3.size); obtain ⟨g4, c4, rfl, hg4, hlt4, hcc4, hcm4, hA4⟩ := hO4.at; have hR4 := row_of hO4.1; have h5 := once_any (mrg l s3) g4 c4 w4 (by rw [mrg_len]; have := hl3.out; omega) hcc4 hR4 hA4; have H5 := Hid.mk h5; clear hA4 hR4 hO4 Hg h5))
        refine H5.out.mono ?_
        rintro e w5 ⟨hgr, hcase⟩
        have hs3 := hK3.size
        have hsa : (w.alloc (.cells #[.slice none 0 0, .int .i64 0, .int .i64 0] 141)).heap.size = w.heap.size + 1 := by simp
        have hB5 : Below w.heap.size w w5 := hB4.grown hgr hB4.size (fun j hj => by cases hj; omega)
        have hK5 := hK4.grown hgr hK4.size (fun j hj => by cases hj; omega)
        obtain ⟨r0, r1, r2, f0, f1, f2, hrlt⟩ := cells3 (hres w5 hK5)
        have HSt : Hid (Strict l) := ⟨rises_strict HL.out.2.2⟩
        clear hgr hs3 hsa H5
        rcases hcase with ⟨k, hk, rfl, hAk⟩ | ⟨hk, rfl⟩
        · have hR := once_right HL.out HM.out hp3 ho3 hk
          have hk300 := hR.2
          have HRk : Hid (∀ o ∈ k, o.name.size ≤ 1048576 ∧ o.value.size ≤ 1048576) := ⟨hR.1⟩
          have HAk : Hid (OpsAt w5 (some ⟨g4, 0, none⟩) k) := ⟨hAk⟩
          clear hR hAk
          by_cases hfull : 150 < k.length
          · have HRs : Hid (logRes l m = ([], 0, 9)) := ⟨HF.out.trans (res_of_full HSt.out hp3 ho3 hk hfull)⟩
            clear hk
            go_wp2
            refine bodyPost_ret (v := .agg #[.slice none 0 0, .int .i64 0, .int .i64 9]) (by simp [results, Tryz.results111, go_sem, r0, r1, r2]) rfl ⟨.slice none 0 0, by rw [HRs.out], .inr ⟨rfl, by rw [HRs.out]⟩, ?_⟩
            exact ((hB5.setCell (Nat.le_refl _) _).setCell (Nat.le_refl _) _).setCell (Nat.le_refl _) _
          · have HRs : Hid (logRes l m = (k, (k.length : Int) - l.length, 0)) := ⟨HF.out.trans (res_of_some HSt.out hp3 ho3 hk hfull)⟩
            have hw := own_any k (some ⟨g4, 0, none⟩) k.length w5 (by omega) HAk.out HRk.out
            have hwr : IntKind.i64.wrap ((k.length : Int) - (l.length : Int)) = (k.length : Int) - (l.length : Int) := Go.IntWalk.i64_in _ (by omega)
            clear hk
            go_wp2_with (first | (go_at_call 81; refine hw.mono ?_; rintro e w6 ⟨rfl, hO6, hb6⟩; have hB6 := hB5.trans (hb6.mono hB5.size); have HO6 : Hid (OpsIn w6 w5.heap.size 30 k) := ⟨hO6⟩; clear r0 r1 r2 f0 f1 f2 hrlt hO6; obtain ⟨r0, r1, r2, f0, f1, f2, hrlt⟩ := cells3 (hres w6 (hK5.trans (hb6.mono hK5.size)))))
            have hs5 : w.heap.size < w5.heap.size := Nat.lt_of_lt_of_le (by simp) hK5.size
            refine bodyPost_ret (v := .agg #[.slice (some ⟨w5.heap.size, 0, none⟩) k.length k.length, .int .i64 ((k.length : Int) - (l.length : Int)), .int .i64 0]) (by simp [results, Tryz.results111, go_sem, r0, r1, r2]) rfl ⟨.slice (some ⟨w5.heap.size, 0, none⟩) k.length k.length, by rw [HRs.out], .inl ⟨w5.heap.size, by rw [HRs.out], by omega, ?_⟩, ?_⟩
            · rw [HRs.out]
              exact ((HO6.out.setOther (by omega)).setOther (by omega)).setOther (by omega)
            · exact ((hB6.setCell (Nat.le_refl _) _).setCell (Nat.le_refl _) _).setCell (Nat.le_refl _) _
        · have HRs : Hid (logRes l m = ([], 0, 7)) := ⟨HF.out.trans (res_of_none HSt.out hp3 ho3 hk)⟩
          clear hk
          go_wp2
          refine bodyPost_ret (v := .agg #[.slice none 0 0, .int .i64 0, .int .i64 7]) (by simp [results, Tryz.results111, go_sem, r0, r1, r2]) rfl ⟨.slice none 0 0, by rw [HRs.out], .inr ⟨rfl, by rw [HRs.out]⟩, ?_⟩
          exact ((hB5.setCell (Nat.le_refl _) _).setCell (Nat.le_refl _) _).setCell (Nat.le_refl _) _
end Go.Proofs.YtfkgmkcndchkjaaGreatDoor.OpR
namespace Go.Proofs.YtfkgmkcndchkjaaGreatDoor.OpR
open Go.ChangeShapes Go.WideShapes Go.ChangeAt Go.RowKit
set_option linter.unusedVariables false

set_option maxRecDepth 100000 in
set_option maxHeartbeats 400000 in
theorem contains_any (l : List OpV) (o : OpV) (ao : Option Addr) (cap : Nat) (w : World) (hl : l.length ≤ 150) (hA : OpsAt w ao l) :
    Calls Tryz.prog 194 #[.slice ao l.length cap, o.agg] w fun e w' => e = .returned (.bool (l.any fun x => sameOp x o)) ∧ Below w.heap.size w w' := by
  have h1 := fun W (hW : Below w.heap.size w W) => index_any l o ao cap W hl (hA.stays hW)
  have H1 := hide h1
  have HA0 := hide ((Below.refl w.heap.size w).alloc (Nat.le_refl _) (.cells #[.int .i64 o.time, .int .i64 o.repl, .int .i64 o.kind, .int .i64 o.node, .int .i64 o.parent, .string o.name, .string o.value] 30))
  obtain ⟨bx, ox, eb, hltb, hob⟩ := one_ops w o 30 0 (by simp)
  cases eb
  obtain ⟨d0, d1, d2, d3, d4, d5, d6⟩ := hob
  simp only [List.getElem_cons_zero, Nat.zero_mul, Nat.zero_add] at d0 d1 d2 d3 d4 d5 d6
  unfold OpV.agg at *
  clear h1 hA hltb
  go_enter Tryz.func194, Tryz.ntmps194
  go_wp2_with (first | (go_at_call 195; first | (refine (H1.out _ HA0.out).mono ?_; rintro e w1 ⟨n, rfl, hn, hb1⟩; have HB := hide (HA0.out.trans (hb1.mono HA0.out.size))) | (refine (H1.out _ (Below.refl _ _)).mono ?_; rintro e w1 ⟨n, rfl, hn, hb1⟩; have HB := hide hb1) | fail) | fail)
  go_ret
  exact ⟨rfl, HB.out⟩
theorem newOps_len (got fr : Int) (l : List OpV) (h : 0 ≤ got - fr) : (newOps got fr l).length = l.length - (min (l.length : Int) (got - fr)).toNat := by
  unfold newOps
  rw [List.length_drop]
set_option maxRecDepth 100000 in
set_option maxHeartbeats 400000 in
theorem unseen_any (c : CliV) (la oa : Option Addr) (lc oc : Nat) (fr : Int) (l : List OpV) (b off cap : Nat) (w : World) (hl : l.length ≤ 400) (hg : c.got ≤ 1000000) (hf : 0 ≤ fr) (hfg : fr ≤ c.got) (k : Nat) (hk : min (l.length : Int) (c.got - fr) = (k : Int)) :
    Calls Tryz.prog 186 #[c.hand la lc oa oc, .int .i64 fr, .slice (some ⟨b, off, none⟩) l.length cap] w fun e w' => e = .returned (.slice (some ⟨b, fromOff off cap k, none⟩) (l.length - k) (cap - k)) ∧ Below w.heap.size w w' := by
  have HB0 := hide (HandBox.new w c la lc oa oc)
  have hwr : wrap64 (c.got - fr) = c.got - fr := by unfold wrap64; omega
  obtain ⟨p0, p1, p2, p3, p4, p5⟩ := HB0.out.cells
  unfold CliV.hand
  have hsl := fun W => slice_from W b off l.length cap k (min (c.got - fr) (l.length : Int)) (by omega) (by omega)
  clear hk
  go_enter Tryz.func186, Tryz.ntmps186
  go_wp2
  go_ret
  exact ⟨rfl, HB0.out.2⟩
set_option maxRecDepth 100000 in
set_option maxHeartbeats 400000 in
theorem logHolds_any (l : List OpV) (o : OpV) (ao : Option Addr) (cap : Nat) (w : World) (hl : l.length ≤ 150) (hA : OpsAt w ao l) :
    Calls Tryz.prog 192 #[.slice ao l.length cap, o.agg] w fun e w' => e = .returned (.bool (l.any fun x => sameOp x o)) ∧ Below w.heap.size w w' := by
  have h1 := fun W (hW : Below w.heap.size w W) => contains_any l o ao cap W hl (hA.stays hW)
  have H1 := hide h1
  have HA0 := hide ((Below.refl w.heap.size w).alloc (Nat.le_refl _) (.cells #[.int .i64 o.time, .int .i64 o.repl, .int .i64 o.kind, .int .i64 o.node, .int .i64 o.parent, .string o.name, .string o.value] 30))
  obtain ⟨bx, ox, eb, hltb, hob⟩ := one_ops w o 30 0 (by simp)
  cases eb
  obtain ⟨d0, d1, d2, d3, d4, d5, d6⟩ := hob
  simp only [List.getElem_cons_zero, Nat.zero_mul, Nat.zero_add] at d0 d1 d2 d3 d4 d5 d6
  unfold OpV.agg at *
  clear h1 hA hltb
  go_enter Tryz.func192, Tryz.ntmps192
  go_wp2_with (first | (go_at_call 194; first | (refine (H1.out _ HA0.out).mono ?_; rintro e w1 ⟨rfl, hb1⟩; have HB := hide (HA0.out.trans (hb1.mono HA0.out.size))) | (refine (H1.out _ (Below.refl _ _)).mono ?_; rintro e w1 ⟨rfl, hb1⟩; have HB := hide hb1) | fail) | fail)
  go_ret
  exact ⟨rfl, HB.out⟩
theorem known_upto {l : List OpV} {r : Int} {m : List OpV} (h : ∀ j (hj : j < m.length), (!decide (m[j].repl = r) || l.any (fun x => sameOp x m[j])) = true) : knownB l r m = true := by
  unfold knownB
  rw [List.all_eq_true]
  intro x hx
  obtain ⟨j, hj, rfl⟩ := List.getElem_of_mem hx
  exact h j hj
theorem known_at {l : List OpV} {r : Int} {m : List OpV} {j : Nat} (hj : j < m.length) (h1 : m[j].repl = r) (h2 : l.any (fun x => sameOp x m[j]) = false) : knownB l r m = false := by
  unfold knownB
  rw [List.all_eq_false]
  exact ⟨m[j], List.getElem_mem hj, by simp [h1, h2]⟩
set_option maxRecDepth 100000 in
set_option maxHeartbeats 1000000 in
theorem knows_any (c : CliV) (la oa : Option Addr) (lc oc : Nat) (m : List OpV) (ma : Option Addr) (mc : Nat) (w : World) (hl : c.log.length ≤ 150) (hm : m.length ≤ 400) (hA : OpsAt w la c.log) (hM : OpsAt w ma m) :
    Calls Tryz.prog 187 #[c.hand la lc oa oc, .slice ma m.length mc] w fun e w' => e = .returned (.bool (knownB c.log c.repl m)) ∧ Below w.heap.size w w' := by
  have h1 := fun W o (hW : Below w.heap.size w W) => logHolds_any c.log o la lc W hl (hA.stays hW)
  have H1 := hide h1
  have HM := hide hM
  have HB0 := hide (HandBox.new w c la lc oa oc)
  have HA0 := hide ((Below.refl w.heap.size w).alloc (Nat.le_refl _) (.cells #[.slice la c.log.length lc, .int .i64 c.repl, .int .i64 c.clock, .int .i64 c.acked, .slice oa c.out.length oc, .int .i64 c.got] 77))
  obtain ⟨p0, p1, p2, p3, p4, p5⟩ := HB0.out.cells
  unfold CliV.hand OpV.agg at *
  clear h1 hA hM
  go_enter Tryz.func187, Tryz.ntmps187
  go_wp2
  clear p0 p1 p2 p3 p4 p5
  go_loopw [9] (fun i wr => ∃ k : Nat, k ≤ m.length ∧ i = .int .i64 k ∧ (∀ j (hj : j < m.length), j < k → (!decide (m[j].repl = c.repl) || c.log.any (fun x => sameOp x m[j])) = true) ∧ Below (w.alloc (.cells #[.slice la c.log.length lc, .int .i64 c.repl, .int .i64 c.clock, .int .i64 c.acked, .slice oa c.out.length oc, .int .i64 c.got] 77)).heap.size (w.alloc (.cells #[.slice la c.log.length lc, .int .i64 c.repl, .int .i64 c.clock, .int .i64 c.acked, .slice oa c.out.length oc, .int .i64 c.got] 77)) wr) (fun i _ => m.length - (intOf i).toNat)
  case atStart => exact ⟨0, by omega, rfl, fun j hj h => by omega, Below.refl _ _⟩
  case round =>
    obtain ⟨k, hkl, rfl, hal, hw⟩ := hrel
    have HL := hide hal
    have HB1 := hide (HB0.out.step hw)
    have HW := hide hw
    have hws := hw.size
    obtain ⟨p0, p1, p2, p3, p4, p5⟩ := HB1.out.cells
    clear hal
    by_cases h : k < m.length
    · obtain ⟨b1, o1, rfl, hlt1, ho1⟩ := HM.out k h
      obtain ⟨c0, c1, c2, c3, c4, c5, c6⟩ := ho1.block (w' := wr) ((hw.block b1 (by simp; omega)).trans (HA0.out.block b1 hlt1))
      have hi0 : (0 : Int) ≤ (k : Int) := by omega
      have hi1 : (k : Int) < (m.length : Int) := by omega
      have hba : Below wr.heap.size wr (wr.alloc (.cells #[.int .i64 m[k].time, .int .i64 m[k].repl, .int .i64 m[k].kind, .int .i64 m[k].node, .int .i64 m[k].parent, .string m[k].name, .string m[k].value] 30)) := (Below.refl _ _).alloc (Nat.le_refl _) _
      have HBA := hide hba
      obtain ⟨q0, q1, q2, q3, q4, q5⟩ := (HB1.out.step hba).cells
      have hWA : Below w.heap.size w (wr.alloc (.cells #[.int .i64 m[k].time, .int .i64 m[k].repl, .int .i64 m[k].kind, .int .i64 m[k].node, .int .i64 m[k].parent, .string m[k].name, .string m[k].value] 30)) := (HB1.out.step hba).2
      have h1 := H1.out _ m[k] hWA
      have HC := hide h1
      clear ho1 hw h1
      by_cases hr : m[k].repl = c.repl
      · have hr' : (m[k].repl == c.repl) = true := by simp [hr]
        have hr2 : decide (m[k].repl = c.repl) = true := by simp [hr]
        have HR := hide hr
        clear hr
        cases hs : c.log.any (fun x => sameOp x m[k])
        · have HS := hide hs
          rw [hs] at HC
          clear hs
          go_wp2_with (first | (go_at_call 192; refine HC.out.mono ?_; rintro e w1 ⟨rfl, hb1⟩; have HB2 := hide ((HB1.out.step HBA.out).step hb1)) | fail)
          go_ret
          exact ⟨by rw [known_at h HR.out HS.out]; rfl, HB2.out.2⟩
        · have HS := hide hs
          rw [hs] at HC
          clear hs
          go_wp2_with (first | (go_at_call 192; refine HC.out.mono ?_; rintro e w1 ⟨rfl, hb1⟩; have HB2 := hide (HW.out.trans ((HBA.out.trans (hb1.mono (by simp))).mono HW.out.size))) | fail)
          go_roundw
          case rel =>
            refine ⟨k + 1, by omega, by go_num, fun j hj hjk => ?_, HB2.out⟩
            rcases Nat.lt_or_ge j k with h' | h'
            · exact HL.out j hj h'
            · obtain rfl : j = k := by omega
              rw [HS.out, Bool.or_true]
          case measure => simp [intOf]; omega
      · have hr' : (m[k].repl == c.repl) = false := by simp [hr]
        have hr2 : decide (m[k].repl = c.repl) = false := by simp [hr]
        go_wp2
        go_roundw
        case rel =>
          refine ⟨k + 1, by omega, by go_num, fun j hj hjk => ?_, HW.out.trans (HBA.out.mono HW.out.size)⟩
          rcases Nat.lt_or_ge j k with h' | h'
          · exact HL.out j hj h'
          · obtain rfl : j = k := by omega
            rw [hr2]; rfl
        case measure => simp [intOf]; omega
    · obtain rfl : k = m.length := by omega
      go_wp2
      go_ret
      exact ⟨by rw [known_upto (fun j hj => HL.out j hj hj)]; rfl, HB1.out.2⟩
end Go.Proofs.YtfkgmkcndchkjaaGreatDoor.OpR
namespace Go.Proofs.YtfkgmkcndchkjaaGreatDoor.OpR
open Go.ChangeShapes Go.WideShapes Go.ChangeAt Go.RowKit
set_option linter.unusedVariables false

theorem OutIn.open {w w' : World} {e : Ending} {r : List OpV × Int × Int} (h : OutIn w w' e r) : ∃ va, e = .returned (.agg #[.slice va r.1.length r.1.length, .int .i64 r.2.1, .int .i64 r.2.2]) ∧ OpsAt w' va r.1 ∧ (∀ a, va = some a → w.heap.size ≤ a.block) ∧ Below w.heap.size w w' := by
  obtain ⟨v, he, h1, h2⟩ := h
  rcases h1 with ⟨g, rfl, hg, hi⟩ | ⟨rfl, h3⟩
  · exact ⟨some ⟨g, 0, none⟩, he, hi.opsAt, fun a e => by cases e; exact hg, h2⟩
  · exact ⟨none, by rw [h3]; exact he, by rw [h3]; exact fun j hj => absurd hj (by simp), fun a e => (by cases e), h2⟩
set_option maxRecDepth 100000 in
set_option maxHeartbeats 400000 in
theorem with_ok (l m : List OpV) (ao1 ao2 : Option Addr) (c1 c2 : Nat) (w : World) (r : List OpV × Int × Int) (hr : r.2.2 = 0)
    (hla : Calls Tryz.prog 111 #[.slice ao1 l.length c1, .slice ao2 m.length c2] w fun e w' => OutIn w w' e r) :
    Calls Tryz.prog 78 #[.slice ao1 l.length c1, .slice ao2 m.length c2] w fun e w' => ∃ va, e = .returned (.tuple #[.slice va r.1.length r.1.length, .int .i64 r.2.1, .nilIface]) ∧ OpsAt w' va r.1 ∧ (∀ a, va = some a → w.heap.size ≤ a.block) ∧ Below w.heap.size w w' := by
  have HL := hide hla
  have h0 := fun W => refAdd_ok W
  have H0 := hide h0
  have HR := hide hr
  clear hla h0
  go_enter Tryz.func78, Tryz.ntmps78
  go_wp2_with (first | (go_at_call 111; refine HL.out.mono ?_; intro e w1 h1; obtain ⟨va, he, ho, hb, hb1⟩ := h1.open; rw [hr] at he; subst he; have HX := hide (And.intro ho (And.intro hb hb1)); clear ho hb hb1) | (go_at_call 112; refine (H0.out _).mono ?_; rintro e w2 ⟨rfl, hb2⟩) | fail)
  have hd : ∀ W, Below (w1.alloc (.cells #[.slice va r.1.length r.1.length, .int .i64 r.2.1, .int .i64 0] 141)).heap.size (w1.alloc (.cells #[.slice va r.1.length r.1.length, .int .i64 r.2.1, .int .i64 0] 141)) W → W.cell? ⟨w1.heap.size, 0, none⟩ = some (.slice va r.1.length r.1.length) ∧ W.cell? ⟨w1.heap.size, 1, none⟩ = some (.int .i64 r.2.1) ∧ W.cell? ⟨w1.heap.size, 2, none⟩ = some (.int .i64 0) := fun W hW => by
    have h := (hW.block w1.heap.size (by simp)).trans (heap_alloc_new w1 (.cells #[.slice va r.1.length r.1.length, .int .i64 r.2.1, .int .i64 0] 141))
    refine ⟨?_, ?_, ?_⟩ <;> simp [World.cell?, h]
  have hd0 := hd _ (Below.refl _ _)
  have hd1 := hd _ (Below.refl _ _).drew
  have HD := hide hd
  have hbx : Below w1.heap.size w1 (w1.alloc (.cells #[.slice va r.1.length r.1.length, .int .i64 r.2.1, .int .i64 0] 141)) := (Below.refl _ _).alloc (Nat.le_refl _) _
  have HBX := hide hbx
  clear hd hbx
  go_region_held3 (fun W => W.cell? ⟨w1.heap.size, 0, none⟩ = some (.slice va r.1.length r.1.length) ∧ W.cell? ⟨w1.heap.size, 1, none⟩ = some (.int .i64 r.2.1) ∧ W.cell? ⟨w1.heap.size, 2, none⟩ = some (.int .i64 0)) (first | with_reducible exact hd0 | with_reducible exact hd1 | with_reducible exact hd2 | fail) (first | (go_at_call 112; refine (H0.out _).mono ?_; rintro e w2 ⟨rfl, hb2⟩; have hB2 : Below (w1.alloc (.cells #[.slice va r.1.length r.1.length, .int .i64 r.2.1, .int .i64 0] 141)).heap.size (w1.alloc (.cells #[.slice va r.1.length r.1.length, .int .i64 r.2.1, .int .i64 0] 141)) w2 := ((Below.refl _ _).drew).trans (hb2.mono (Nat.le_refl _)); have hd2 := HD.out _ hB2; have HB2 := hide hB2; clear hb2 hB2) | fail)
  go_wp2
  obtain ⟨ho, hb, hb1⟩ := HX.out
  have hb2 := HBX.out.trans (HB2.out.mono (by simp))
  refine bodyPost_ret (v := .tuple #[.slice va r.1.length r.1.length, .int .i64 r.2.1, .nilIface]) (by simp [results, Tryz.results78, go_sem]) rfl ⟨va, rfl, ho.stays hb2, hb, hb1.trans (hb2.mono hb1.size)⟩
set_option maxRecDepth 100000 in
set_option maxHeartbeats 400000 in
theorem with_no (l m : List OpV) (ao1 ao2 : Option Addr) (c1 c2 : Nat) (w : World) {f : Nat → Addr} (hS : Sents w f) (r : List OpV × Int × Int) (cd : Int) (hcd : cd = 7 ∨ cd = 9) (hr : r.2.2 = cd)
    (hla : Calls Tryz.prog 111 #[.slice ao1 l.length c1, .slice ao2 m.length c2] w fun e w' => OutIn w w' e r) :
    Calls Tryz.prog 78 #[.slice ao1 l.length c1, .slice ao2 m.length c2] w fun e w' => ∃ va, e = .returned (.tuple #[.slice va r.1.length r.1.length, .int .i64 r.2.1, errV f (gOf cd)]) ∧ OpsAt w' va r.1 ∧ (∀ a, va = some a → w.heap.size ≤ a.block) ∧ Below w.heap.size w w' := by
  have HL := hide hla
  have h0 := fun W (hW : Below w.heap.size w W) => refAdd_no (hS.step hW) hcd
  have H0 := hide h0
  have HR := hide hr
  have HCD := hide hcd
  unfold errV at *
  clear hla h0 hcd hS
  go_enter Tryz.func78, Tryz.ntmps78
  go_wp2_with (first | (go_at_call 111; refine HL.out.mono ?_; intro e w1 h1; obtain ⟨va, he, ho, hb, hb1⟩ := h1.open; rw [hr] at he; subst he; have HX := hide (And.intro ho (And.intro hb hb1)); clear ho hb hb1) | (go_at_call 112; refine (H0.out _ HWD.out).mono ?_; rintro e w2 ⟨rfl, hb2⟩) | fail)
  have hd : ∀ W, Below (w1.alloc (.cells #[.slice va r.1.length r.1.length, .int .i64 r.2.1, .int .i64 cd] 141)).heap.size (w1.alloc (.cells #[.slice va r.1.length r.1.length, .int .i64 r.2.1, .int .i64 cd] 141)) W → W.cell? ⟨w1.heap.size, 0, none⟩ = some (.slice va r.1.length r.1.length) ∧ W.cell? ⟨w1.heap.size, 1, none⟩ = some (.int .i64 r.2.1) ∧ W.cell? ⟨w1.heap.size, 2, none⟩ = some (.int .i64 cd) := fun W hW => by
    have h := (hW.block w1.heap.size (by simp)).trans (heap_alloc_new w1 (.cells #[.slice va r.1.length r.1.length, .int .i64 r.2.1, .int .i64 cd] 141))
    refine ⟨?_, ?_, ?_⟩ <;> simp [World.cell?, h]
  have hd0 := hd _ (Below.refl _ _)
  have hd1 := hd _ (Below.refl _ _).drew
  have HD := hide hd
  have hbx : Below w1.heap.size w1 (w1.alloc (.cells #[.slice va r.1.length r.1.length, .int .i64 r.2.1, .int .i64 cd] 141)) := (Below.refl _ _).alloc (Nat.le_refl _) _
  have HBX := hide hbx
  have hwd : Below w.heap.size w (w1.alloc (.cells #[.slice va r.1.length r.1.length, .int .i64 r.2.1, .int .i64 cd] 141)).drew := (HX.out.2.2.trans (hbx.mono HX.out.2.2.size)).drew
  have HWD := hide hwd
  clear hwd
  clear hd hbx
  go_region_held3 (fun W => W.cell? ⟨w1.heap.size, 0, none⟩ = some (.slice va r.1.length r.1.length) ∧ W.cell? ⟨w1.heap.size, 1, none⟩ = some (.int .i64 r.2.1) ∧ W.cell? ⟨w1.heap.size, 2, none⟩ = some (.int .i64 cd)) (first | with_reducible exact hd0 | with_reducible exact hd1 | with_reducible exact hd2 | fail) (first | (go_at_call 112; refine (H0.out _ HWD.out).mono ?_; rintro e w2 ⟨rfl, hb2⟩; have hB2 : Below (w1.alloc (.cells #[.slice va r.1.length r.1.length, .int .i64 r.2.1, .int .i64 cd] 141)).heap.size (w1.alloc (.cells #[.slice va r.1.length r.1.length, .int .i64 r.2.1, .int .i64 cd] 141)) w2 := ((Below.refl _ _).drew).trans (hb2.mono (Nat.le_refl _)); have hd2 := HD.out _ hB2; have HB2 := hide hB2; clear hb2 hB2) | fail)
  go_wp2
  obtain ⟨ho, hb, hb1⟩ := HX.out
  have hb2 := HBX.out.trans (HB2.out.mono (by simp))
  refine bodyPost_ret (v := .tuple #[.slice va r.1.length r.1.length, .int .i64 r.2.1, .iface 235 (.pointer (some (f (gOf cd))))]) (by simp [results, Tryz.results78, go_sem]) rfl ⟨va, rfl, ho.stays hb2, hb, hb1.trans (hb2.mono hb1.size)⟩
end Go.Proofs.YtfkgmkcndchkjaaGreatDoor.OpR
