/- Proves what impl's hand tells: whether its log is one, its last Time, its own ops, whether it is right. -/
import Derived.Test.YtfkgmkcndchkjaaGreatDoorCliS
import Derived.Test.YtfkgmkcndchkjaaGreatDoorIOps
namespace Go.Proofs.YtfkgmkcndchkjaaGreatDoor.OpR
open Go.ChangeShapes Go.WideShapes Go.ChangeAt Go.RowKit
set_option linter.unusedVariables false

set_option maxRecDepth 100000 in
set_option maxHeartbeats 400000 in
theorem isLog_any (l : List OpV) (ao : Option Addr) (cap : Nat) (w : World) (hl : l.length ≤ maxLen) (hA : OpsAt w ao l) (hS : Sized l) :
    Calls Tryz.prog 101 #[.slice ao l.length cap] w fun e w' => e = .returned (.bool (logRight l)) ∧ Below w.heap.size w w' := by
  have h1 := hide (iLog_any l ao cap w hl hA hS)
  clear hA hS
  go_enter Tryz.func101, Tryz.ntmps101
  go_wp2_with (first | (go_at_call 136; refine h1.out.mono ?_; rintro e w1 ⟨rfl, hb1⟩))
  go_ret
  exact ⟨rfl, hb1⟩
set_option maxRecDepth 100000 in
set_option maxHeartbeats 400000 in
theorem lastTime_any (l : List OpV) (ao : Option Addr) (cap : Nat) (w : World) (hl : l.length ≤ maxLen) (hA : OpsAt w ao l) :
    Calls Tryz.prog 137 #[.slice ao l.length cap] w fun e w' => e = .returned (.int .i64 (lastT l)) ∧ Below w.heap.size w w' := by
  unfold maxLen at hl
  by_cases h0 : l = []
  · subst h0
    go_enter Tryz.func137, Tryz.ntmps137
    go_wp2
    go_ret
    exact ⟨rfl, Below.refl _ _⟩
  · have hpos : 0 < l.length := List.length_pos_iff.2 h0
    obtain ⟨b, off, rfl, hlt, ho⟩ := hA (l.length - 1) (by omega)
    obtain ⟨c0, c1, c2, c3, c4, c5, c6⟩ := ho
    have hlast : lastT l = l[l.length - 1].time := by
      unfold lastT
      rw [List.getLast?_eq_getElem?, List.getElem?_eq_getElem (by omega)]
    have HLa := hide hlast
    obtain ⟨m, hm⟩ : ∃ m, l.length - 1 = m := ⟨_, rfl⟩
    have e1 : l.length = m + 1 := by omega
    simp only [hm] at c0
    have c0' : w.cell? ⟨b, off + m * 7, none⟩ = some (.int .i64 (lastT l)) := by rw [hlast]; simpa only [hm] using c0
    have HC := hide c0'
    clear c0 c0' c1 c2 c3 c4 c5 c6 hlast hA h0 HLa hm
    obtain ⟨t, ht⟩ : ∃ t, t = lastT l := ⟨_, rfl⟩
    have c0 := HC.out
    rw [← ht] at c0 ⊢
    rw [e1]
    have hi0 : (0 : Int) ≤ (m : Int) := by omega
    have hi1 : (m : Int) < (m : Int) + 1 := by omega
    have hW2 : wrap64 (m : Int) = (m : Int) := by unfold wrap64; omega
    clear HC ht e1 hpos
    go_enter Tryz.func137, Tryz.ntmps137
    go_wp2
    go_ret
    exact ⟨rfl, Below.refl _ _⟩
set_option maxRecDepth 100000 in
set_option maxHeartbeats 1000000 in
theorem by_any (l : List OpV) (ao : Option Addr) (cap : Nat) (r : Int) (w : World) (hl : l.length ≤ 150) (hA : OpsAt w ao l) :
    Calls Tryz.prog 138 #[.slice ao l.length cap, .int .i64 r] w fun e w' => ∃ v, e = .returned v ∧ w'.ownsRow w.heap.size 30 7 v (ownB l r).length (flat (ownB l r)) ∧ Below w.heap.size w w' := by
  have HA := hide hA
  clear hA
  go_enter Tryz.func138, Tryz.ntmps138
  go_wp2
  go_loopw [5, 10] (fun vo i wr => ∃ k : Nat, k ≤ l.length ∧ i = .int .i64 k ∧ wr.ownsRow w.heap.size 30 7 vo (ownB (l.take k) r).length (flat (ownB (l.take k) r)) ∧ Below w.heap.size w wr) (fun _ i _ => l.length - (intOf i).toNat)
  case atStart => exact ⟨0, by omega, rfl, ⟨by simp [flat, ownB], .inl ⟨rfl, by simp [ownB]⟩⟩, Below.refl _ _⟩
  case round =>
    obtain ⟨k, hk, rfl, hO, hb⟩ := hrel
    obtain ⟨m, hm⟩ : ∃ m, m = ownB (l.take k) r := ⟨_, rfl⟩
    rw [← hm] at hO
    have HM := hide hm
    have HO := hide hO
    have hown1 : m.length ≤ k := by rw [hm]; have := own_len (l.take k) r; rw [List.length_take] at this; omega
    clear hm hO
    by_cases h : k < l.length
    · obtain ⟨b, off, rfl, hlt, ho⟩ := HA.out k h
      obtain ⟨c0, c1, c2, c3, c4, c5, c6⟩ := ho.block (w' := wr) (hb.block b hlt)
      have hi0 : (0 : Int) ≤ (k : Int) := by omega
      have hi1 : (k : Int) < (l.length : Int) := by omega
      clear ho
      by_cases hr : l[k].repl = r
      · have hr' : (l[k].repl == r) = true := by simp [hr]
        have HR := hide hr
        clear hr
        have hXs := hb.size
        have hN0 := one_ops (wr.alloc (.cells #[.int .i64 l[k].time, .int .i64 l[k].repl, .int .i64 l[k].kind, .int .i64 l[k].node, .int .i64 l[k].parent, .string l[k].name, .string l[k].value] 30)) l[k] 30
        rw [show (wr.alloc (.cells #[.int .i64 l[k].time, .int .i64 l[k].repl, .int .i64 l[k].kind, .int .i64 l[k].node, .int .i64 l[k].parent, .string l[k].name, .string l[k].value] 30)).heap.size = wr.heap.size + 1 by simp] at hN0
        have HN := hide hN0
        clear hN0
        go_wp2_with (at_builtin; refine wpList_append_ops rfl _ _ rfl w.heap.size _ m rfl ((HO.out.alloc _).alloc _) (some ⟨wr.heap.size + 1, 0, none⟩) [l[k]] 1 rfl HN.out (by simp; omega) (by simp; omega) ?_)
        intro v1 w1 hown1' hgr1 hne1
        have hYY : Below w.heap.size w w1 := ((hb.alloc hXs (.cells #[.int .i64 l[k].time, .int .i64 l[k].repl, .int .i64 l[k].kind, .int .i64 l[k].node, .int .i64 l[k].parent, .string l[k].name, .string l[k].value] 30)).alloc (by simp; omega) _).grown hgr1 (by simp; omega) (fun j hj => (HO.out.lt j hj).1)
        have HO2 : Hid (w1.ownsRow w.heap.size 30 7 v1 (ownB (l.take (k + 1)) r).length (flat (ownB (l.take (k + 1)) r))) := ⟨by
          have e0 : ownB (l.take (k + 1)) r = m ++ [l[k]] := by rw [own_take h, if_pos HR.out, ← HM.out]
          rw [e0, List.length_append]; exact hown1'⟩
        clear hown1' hgr1 hne1
        go_wp2
        go_roundw
        case rel => exact ⟨k + 1, by omega, by go_num, HO2.out, hYY⟩
        case measure => simp [intOf]; omega
      · have hr' : (l[k].repl == r) = false := by simp [hr]
        go_wp2
        go_roundw
        case rel => exact ⟨k + 1, by omega, by go_num, by rw [own_take h, if_neg hr, List.append_nil, ← HM.out]; exact HO.out.alloc _, hb.alloc hb.size _⟩
        case measure => simp [intOf]; omega
    · obtain rfl : k = l.length := by omega
      go_wp2
      go_ret
      have e := HM.out
      rw [List.take_length] at e
      exact ⟨_, rfl, by rw [← e]; exact HO.out, hb⟩
set_option maxRecDepth 100000 in
set_option maxHeartbeats 1000000 in
theorem equal_any (a b : List OpV) (ao bo : Option Addr) (ca cb : Nat) (w : World) (ha : a.length ≤ 400) (hb : b.length ≤ 400) (hA : OpsAt w ao a) (hB : OpsAt w bo b) :
    Calls Tryz.prog 139 #[.slice ao a.length ca, .slice bo b.length cb] w fun e w' => e = .returned (.bool (sameL a b)) ∧ Below w.heap.size w w' := by
  have HA := hide hA
  have HB := hide hB
  clear hA hB
  go_enter Tryz.func139, Tryz.ntmps139
  go_wp2
  · rename_i hne
    go_ret
    refine ⟨ret_bool ?_, Below.refl _ _⟩
    cases e : sameL a b
    · rfl
    · rw [(sameL_iff a b).1 e] at hne; simp at hne
  rename_i hlen hK hk
  have hlen' : a.length = b.length := by have h := hlen; simp at h; omega
  have HLe := hide hlen'
  clear hlen hlen'
  go_loopw [13] (fun i wr => ∃ k : Nat, k ≤ a.length ∧ i = .int .i64 k ∧ (∀ j (hj : j < a.length), j < k → b[j]? = some a[j]) ∧ Below w.heap.size w wr) (fun i _ => a.length - (intOf i).toNat)
  case atStart => exact ⟨0, by omega, rfl, fun j hj h => by omega, Below.refl _ _⟩
  case round =>
    obtain ⟨k, hkl, rfl, hal, hw⟩ := hrel
    have HL := hide hal
    clear hal
    by_cases h : k < a.length
    · have h2 : k < b.length := by have := HLe.out; omega
      obtain ⟨b1, o1, rfl, hlt1, ho1⟩ := HA.out k h
      obtain ⟨b2, o2, rfl, hlt2, ho2⟩ := HB.out k h2
      obtain ⟨c0, c1, c2, c3, c4, c5, c6⟩ := ho1.block (w' := wr) (hw.block b1 hlt1)
      obtain ⟨d0, d1, d2, d3, d4, d5, d6⟩ := ho2.block (w' := wr) (hw.block b2 hlt2)
      have hi0 : (0 : Int) ≤ (k : Int) := by omega
      have hi1 : (k : Int) < (a.length : Int) := by omega
      have hi2 : (k : Int) < (b.length : Int) := by omega
      have hneq := fun W => neq_ops a[k] b[k] W
      unfold OpV.agg at hneq
      clear ho1 ho2
      cases hs : sameOp a[k] b[k]
      · simp only [hs] at hneq
        have hne : ¬ a[k] = b[k] := fun e => by rw [same_true e] at hs; cases hs
        have HNe := hide hne
        clear hne hs
        go_wp2_with fail
        go_quiet (fail)
        go_wp2
        go_ret
        refine ⟨ret_bool ?_, hw.trans ((drewN_below wr nq).mono hw.size)⟩
        cases e : sameL a b
        · rfl
        · exact absurd (by have e2 := (sameL_iff a b).1 e; subst e2; rfl) HNe.out
      · simp only [hs] at hneq
        have hne : a[k] = b[k] := (same_iff _ _).1 hs
        have HNe := hide hne
        clear hne hs
        go_wp2_with fail
        go_quiet (fail)
        go_wp2
        go_roundw
        case rel =>
          refine ⟨k + 1, by omega, by go_num, fun j hj hjk => ?_, hw.trans ((drewN_below wr nq).mono hw.size)⟩
          rcases Nat.lt_or_ge j k with h' | h'
          · exact HL.out j hj h'
          · obtain rfl : j = k := by omega
            rw [List.getElem?_eq_getElem h2, HNe.out]
        case measure => simp [intOf]; omega
    · go_wp2
      go_ret
      refine ⟨ret_bool ((sameL_iff a b).2 ?_).symm, hw⟩
      refine List.ext_getElem? fun j => ?_
      by_cases hj : j < a.length
      · rw [HL.out j hj (by omega), List.getElem?_eq_getElem hj]
      · have := HLe.out
        rw [List.getElem?_eq_none (by omega), List.getElem?_eq_none (by omega)]
end Go.Proofs.YtfkgmkcndchkjaaGreatDoor.OpR
