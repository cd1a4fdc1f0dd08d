/- Proves what the draws of FnSeal answer: a text of at most 20000 bytes; a number and a text of at most 8 bytes; and what laws.lwAt tells. -/
import Derived.Test.YthmofcckjakhkaaDoorSrcV
import Derived.Test.YthmofcckjakhkaaDoorCrcW
import Derived.Deep.OwnRows
namespace Go.Proofs.YthmofcckjakhkaaDoor.SrcR
open Go.ChangeShapes Go.WideShapes Go.ChangeAt Go.RowKit Go.ChangeMaps
set_option linter.unusedVariables false

def edges : List Int := [0, 1, -1, 2, 1000, 1001, 2147483648, 2147483647, -2147483648, 4611686018427387904, 9223372036854775807, -9223372036854775808, 1000000, 1000001]
theorem edges_rng : ∀ x ∈ edges, -9223372036854775808 ≤ x ∧ x ≤ 9223372036854775807 := by decide
def edgeCells : Array Value := (edges.map (Value.int .i64)).toArray
theorem edge_at {v : Nat} (h : v < 14) : ∃ x : Int, edgeCells[v]? = some (.int .i64 x) ∧ -9223372036854775808 ≤ x ∧ x ≤ 9223372036854775807 := by
  have hl : v < edges.length := h
  refine ⟨edges[v], ?_, edges_rng _ (List.getElem_mem hl)⟩
  unfold edgeCells
  rw [List.getElem?_toArray, List.getElem?_map, List.getElem?_eq_getElem hl]; rfl

theorem edge_cell {w w1 : World} {g k : Nat} {y : Value} (h : (w.alloc (.cells edgeCells 2)).grownBy w1 (some g)) (hg : g < w.heap.size) (hx : edgeCells[k]? = some y) : w1.cell? ⟨w.heap.size, k, none⟩ = some y := by
  have e := h.block w.heap.size (by simp) (fun e => by have := Option.some.inj e; omega)
  rw [heap_alloc_new] at e
  simp [World.cell?, e, hx]

set_option maxRecDepth 100000 in
set_option maxHeartbeats 1000000 in
theorem edge_any (g : Nat) (w : World) (ao : Option Addr) (len cap : Nat) (hs : Src w g ao len cap) (hc : Code w ao len) (hB : ∀ a, ao = some a → a.block < w.heap.size ∧ a.block ≠ g) :
    Calls Tryd.prog 22 #[.pointer (some ⟨g, 0, none⟩)] w fun e w' => ∃ x : Int, e = .returned (.int .i64 x) ∧ -9223372036854775808 ≤ x ∧ x ≤ 9223372036854775807 ∧ Src w' g ao len cap ∧ w.grownBy w' (some g) := by
  have hg := hs.lt
  have hs1 : Src (w.alloc (.cells edgeCells 2)) g ao len cap := hs.block (Below.heap_alloc _ _ _ hg)
  have hgr : w.grownBy (w.alloc (.cells edgeCells 2)) (some g) := World.grownBy_alloc _ _ _
  have hn := n_any g 14 (w.alloc (.cells edgeCells 2)) (by omega) (by omega) ao len cap hs1 (hc.grown hgr hB)
  have HG : Hid (w.grownBy (w.alloc (.cells edgeCells 2)) (some g)) := hgr
  have hnew := heap_alloc_new w (.cells edgeCells 2)
  clear hs hs1 hgr hc
  have he : (#[.int .i64 0, .int .i64 1, .int .i64 (-1), .int .i64 2, .int .i64 1000, .int .i64 1001, .int .i64 2147483648, .int .i64 2147483647, .int .i64 (-2147483648), .int .i64 4611686018427387904, .int .i64 9223372036854775807, .int .i64 (-9223372036854775808), .int .i64 1000000, .int .i64 1000001] : Array Value) = edgeCells := rfl
  go_enter Tryd.func22, Tryd.ntmps22
  go_wp2_with (first | (go_at_call 18; refine hn.mono ?_; rintro e w1 ⟨v, rfl, hv0, hv1, hs1, hg1⟩; obtain ⟨x, hx, hx0, hx1⟩ := edge_at (v := v.toNat) (by omega); have hcell := edge_cell hg1 hg hx; clear hx))
  go_ret
  exact ⟨x, rfl, hx0, hx1, hs1, grown_trans HG.out hg1⟩

theorem below_own {w a b : World} (h : Below w.heap.size w a) (k : a.grownBy b (some w.heap.size)) : Below w.heap.size w b :=
  h.grown k h.size (fun j hj => by cases hj; exact Nat.le_refl _)
theorem conv_made (w : World) (n : Nat) :
    (convert 22 9 (.slice (some ⟨w.heap.size, 0, none⟩) n n)).run Tryd.prog (w.alloc (.cells (madeCells #[.int .u8 0] n) 5)) = .ok (.string ⟨(List.replicate n (0 : UInt8)).toArray⟩) (w.alloc (.cells (madeCells #[.int .u8 0] n) 5)) := by
  have h := run_convert_bytes_back (P := Tryd.prog) (w.alloc (.cells (madeCells #[.int .u8 0] n) 5)) 22 9 5 ⟨w.heap.size, 0, none⟩ n (List.replicate n (0 : UInt8)) Tryd.underlying22 Tryd.underlying5 Tryd.underlying9 (fun j hj => by
    rw [Addr.add_lit, Nat.zero_add]
    have hj' : j < n := by simpa using hj
    have e : (madeCells #[Value.int .u8 0] n)[j]? = some (.int .u8 0) := by
      rw [← Array.getElem?_toList, toList_madeCells_one, List.getElem?_replicate]
      simp [hj']
    simp only [World.cell?_alloc_at, e]
    simp)
  simpa using h

end Go.Proofs.YthmofcckjakhkaaDoor.SrcR
