/- Proves what strings.Clone tells of a text: the same text, in new memory. -/
import Derived.Test.YtfkgmkcndchkjaaGreatDoorJoin
import Derived.Lib.UnsafeStr
namespace Go.Proofs.YtfkgmkcndchkjaaGreatDoor.NumR
open Go.ChangeShapes Go.WideShapes Go.ChangeAt Go.RowKit
set_option linter.unusedVariables false

theorem row_full {N : Nat} {l : List UInt8} (h : l.length = N) : row N l = (cellsOf l).toArray := by
  unfold row
  rw [h, Nat.sub_self]
  simp
set_option maxRecDepth 100000 in
set_option maxHeartbeats 400000 in
theorem cloneIn_any (s : ByteArray) (w : World) (hs : s.size ≤ 1099511627776) :
    Calls Tryz.prog 150 #[.string s] w fun e w' => e = .returned (.string s) ∧ Below w.heap.size w w' := by
  by_cases h0 : s.size = 0
  · obtain rfl : s = ⟨#[]⟩ := ByteArray.ext (Array.eq_empty_of_size_eq_zero h0)
    go_enter Tryz.func150, Tryz.ntmps150
    go_wp2
    go_ret
    exact ⟨rfl, Below.refl _ _⟩
  · obtain ⟨N, hN⟩ : ∃ N, s.size = N := ⟨_, rfl⟩
    have hmk : ∀ w, (Instr.makeSlice 132 (.int .i64 (N : Int)) (.int .i64 (N : Int))).run Tryz.prog w = .ok (.slice (some ⟨w.heap.size, 0, none⟩) N N) (w.alloc (.cells (row N []) 5)) :=
      fun w => by rw [← row_made]; exact run_make_row' 132 5 (.int .u8 0) 1 Tryz.underlying132 info8' rfl .i64 .i64 N (by omega) (by omega) w
    have hcp : (Builtin.copy_ #[132, 9] 3 #[.slice (some ⟨w.heap.size, 0, none⟩) N N, .string s]).run Tryz.prog (w.alloc (.cells (row N []) 5)) = .ok (.int .i64 (N : Int)) (w.alloc (.cells (row N s.data.toList) 5)) := by
      have h := copy_row w N [] s (by simp; omega)
      have e : offOf N ([] : List UInt8).length = 0 := by unfold offOf; split <;> rfl
      rw [e, hN] at h
      simpa using h
    have hl : s.data.toList.length = N := by rw [size_list]; exact hN
    have hne : s.data.toList ≠ [] := fun e => h0 (by rw [← size_list, e]; rfl)
    have hgY : (w.alloc (.cells (row N s.data.toList) 5)).heap[w.heap.size]? = some (.cells (row N s.data.toList) 5 (0, 0)) := heap_alloc_new w _
    have hrs : (row N s.data.toList).size = N := row_size (by omega)
    have hUS := Lib.run_unsafeString_row (P := Tryz.prog) (w.alloc (.cells (row N s.data.toList) 5)) 214 3 9 5 Tryz.underlying214 (by kernel_rfl) w.heap.size N (by unfold World.shape?; rw [hgY]; simp [hrs]) s.data.toList hne (by omega) (by omega)
      (fun j x hx => by
        rw [Addr.add_lit, Nat.zero_add, World.cell?_alloc_at _ _ _ _ rfl, row_full hl]
        simp [cellsOf, hx])
    rw [hl] at hUS
    clear hgY hne hl
    go_enter Tryz.func150, Tryz.ntmps150
    go_wp2
    go_ret
    have hb1 : Below w.heap.size w (w.alloc (.cells (row N s.data.toList) 5)) := (Below.refl _ w).alloc (Nat.le_refl _) _
    exact ⟨rfl, Lib.below_freeze hb1 (p := ⟨w.heap.size, 0, none⟩) (Nat.le_refl _) _⟩
theorem clone_any (s : ByteArray) (w : World) (hs : s.size ≤ 1099511627776) :
    Calls Tryz.prog 115 #[.string s] w fun e w' => e = .returned (.string s) ∧ Below w.heap.size w w' := by
  have h1 := fun W => cloneIn_any s W hs
  go_enter Tryz.func115, Tryz.ntmps115
  go_wp2_with (first | (go_at_call 150; refine (h1 _).mono ?_; rintro e w1 ⟨rfl, hb1⟩))
  go_ret
  exact ⟨rfl, hb1⟩
end Go.Proofs.YtfkgmkcndchkjaaGreatDoor.NumR
