/- Proves what impl.ownOps makes of ops: the same ops, in new memory down to the texts. -/
import Derived.Test.YtfkgmkcndchkjaaGreatDoorOnceL
import Derived.Test.YtfkgmkcndchkjaaGreatDoorOpS
import Derived.Test.YtfkgmkcndchkjaaGreatDoorClone
namespace Go.Proofs.YtfkgmkcndchkjaaGreatDoor.OpR
open Go.ChangeShapes Go.WideShapes Go.ChangeAt Go.RowKit
set_option linter.unusedVariables false

theorem VarO.set5 {B : Nat} {w c : World} {g : Nat} {T : TypeId} {o : OpV} (h : VarO B w c g T o) (hB : B ≤ g) : VarO B w (c.setCell ⟨g, 5, none⟩ (.string o.name)) g T o :=
  ⟨h.below.setCell hB _, (set_block h.lies 5 (.string o.name)).trans rfl⟩
theorem VarO.set6 {B : Nat} {w c : World} {g : Nat} {T : TypeId} {o : OpV} (h : VarO B w c g T o) (hB : B ≤ g) : VarO B w (c.setCell ⟨g, 6, none⟩ (.string o.value)) g T o :=
  ⟨h.below.setCell hB _, (set_block h.lies 6 (.string o.value)).trans rfl⟩
theorem VarO.free {B : Nat} {w c : World} {g : Nat} {T : TypeId} {o : OpV} (h : VarO B w c g T o) (i : Nat) : c.frozen? ⟨g, i, none⟩ = false := by
  have e := h.lies
  simp [World.frozen?, e]

set_option maxRecDepth 100000 in
set_option maxHeartbeats 1000000 in
theorem own_any (l : List OpV) (ao : Option Addr) (cap : Nat) (w : World) (hl : l.length ≤ 1048576) (hA : OpsAt w ao l) (hS : ∀ o ∈ l, o.name.size ≤ 1048576 ∧ o.value.size ≤ 1048576) :
    Calls Tryz.prog 81 #[.slice ao l.length cap] w fun e w' => e = .returned (.slice (some ⟨w.heap.size, 0, none⟩) l.length l.length) ∧ OpsIn w' w.heap.size 30 l ∧ Below w.heap.size w w' := by
  have HA : Hid (OpsAt w ao l) := ⟨hA⟩
  have HS : Hid (∀ o ∈ l, o.name.size ≤ 1048576 ∧ o.value.size ≤ 1048576) := ⟨hS⟩
  have hmk := make_ops l.length hl
  clear hA hS
  go_enter Tryz.func81, Tryz.ntmps81
  go_wp2
  clear hmk
  go_loopw [11] (fun i wr => ∃ k : Nat, k ≤ l.length ∧ i = .int .i64 k ∧ OpsIn wr w.heap.size 30 (part l k) ∧ Below w.heap.size w wr) (fun i _ => l.length - (intOf i).toNat)
  case atStart => exact ⟨0, by omega, rfl, by rw [part_zero]; exact heap_alloc_new w _, (Below.refl _ _).alloc (Nat.le_refl _) _⟩
  case round =>
    obtain ⟨k, hk, rfl, hO, hb⟩ := hrel
    have HO : Hid (OpsIn wr w.heap.size 30 (part l k)) := ⟨hO⟩
    have hwlt := hO.lt
    clear hO
    by_cases h : k < l.length
    · obtain ⟨b, off, rfl, hlt, ho⟩ := HA.out k h
      obtain ⟨o, hoo⟩ : ∃ o, l[k] = o := ⟨_, rfl⟩
      obtain ⟨c0, c1, c2, c3, c4, c5, c6⟩ := ho.block (w' := wr) (hb.block b hlt)
      rw [hoo] at c0 c1 c2 c3 c4 c5 c6
      have hsz := HS.out l[k] (List.getElem_mem h)
      rw [hoo] at hsz
      have HOo : Hid (l[k] = o) := ⟨hoo⟩
      have hQ : VarO wr.heap.size wr (wr.alloc (.cells #[.int .i64 o.time, .int .i64 o.repl, .int .i64 o.kind, .int .i64 o.node, .int .i64 o.parent, .string o.name, .string o.value] 30)) wr.heap.size 30 o := ⟨(Below.refl _ _).alloc (Nat.le_refl _) _, heap_alloc_new wr _⟩
      have hC5 := fun W => NumR.clone_any o.name W (by omega)
      have hC6 := fun W => NumR.clone_any o.value W (by omega)
      have hi0 : (0 : Int) ≤ (k : Int) := by omega
      have hi1 : (k : Int) < (l.length : Int) := by omega
      have hne1 : ¬ wr.heap.size = w.heap.size := by omega
      have hne2 : ¬ w.heap.size = wr.heap.size := by omega
      have hpl : k < (part l k).length := by rw [part_len hk]; exact h
      clear ho hoo hsz
      have m1 : Hid True := ⟨trivial⟩
      go_wp2_with (first | (go_at_call 115; clear m1; refine (hC5 _).mono ?_; rintro e x1 ⟨rfl, hx1⟩; have hQ1 := hQ.step hx1 (by simp); have HQ1 : Hid (VarO wr.heap.size wr x1 wr.heap.size 30 o) := ⟨hQ1⟩; clear c0 c1 c2 c3 c4 c5 c6; obtain ⟨k0, k1, k2, k3, k4, k5, k6⟩ := hQ1.cells; have g5 := hQ1.free 5; clear hQ1 hC5) | (go_at_call 115; refine (hC6 _).mono ?_; rintro e x2 ⟨rfl, hx2⟩; have hQ2 := (HQ1.out.set5 (Nat.le_refl _)).step hx2 (by have := HQ1.out.below.size; simp [World.setCell] at *; omega); have HQ2 : Hid (VarO wr.heap.size wr x2 wr.heap.size 30 o) := ⟨hQ2⟩; clear k0 k1 k2 k3 k4 k5 k6 g5 hC6; obtain ⟨k0, k1, k2, k3, k4, k5, k6⟩ := hQ2.cells; have g6 := hQ2.free 6; have hO2 := HO.out.stays hQ2.below; obtain ⟨d0, d1, d2, d3, d4, d5, d6⟩ := hO2.opAt hpl; have f0 := hO2.frozen (k * 7); have f1 := hO2.frozen (k * 7 + 1); have f2 := hO2.frozen (k * 7 + 2); have f3 := hO2.frozen (k * 7 + 3); have f4 := hO2.frozen (k * 7 + 4); have f5 := hO2.frozen (k * 7 + 5); have f6 := hO2.frozen (k * 7 + 6); clear hO2 hQ2))
      have hQ3 := HQ2.out.set6 (Nat.le_refl _)
      have hO3 := HO.out.stays hQ3.below
      go_roundw
      case rel =>
        refine ⟨k + 1, by omega, by go_num, ?_, Below.store7 (hb.trans (hQ3.below.mono hb.size)) (Nat.le_refl _) _ _ _ _ _ _ _ _ _ _ _ _ _ _⟩
        have hst := hO3.store hpl o
        have e := part_set h
        rw [HOo.out] at e
        rw [e] at hst
        exact hst
      case measure => simp [intOf]; omega
    · obtain rfl : k = l.length := by omega
      go_wp2
      go_ret
      have hO := HO.out
      rw [part_all] at hO
      exact ⟨rfl, hO, hb⟩
end Go.Proofs.YtfkgmkcndchkjaaGreatDoor.OpR
