/- Proves what spec.GetText answers, given what spec.GetNum does. -/
import Derived.Test.YthmofcckjakhkaaDoorGetL
import Derived.Deep.RegionHeld3
namespace Go.Proofs.YthmofcckjakhkaaDoor.GetR
open Go.ChangeShapes Go.WideShapes Go.ChangeAt Go.RowKit Go.ChangeMaps
set_option linter.unusedVariables false

def txt (t : ByteArray) (x c : Int) : Value := .agg #[.string t, .int .i64 x, .int .i64 c]

theorem below3a {w w1 : World} {o : Obj} (hb : Below (w.alloc o).heap.size (w.alloc o) w1) (x y z : Value) (q : Obj) :
    Below w.heap.size w ((((w1.setCell ⟨w.heap.size, 0, none⟩ x).setCell ⟨w.heap.size, 1, none⟩ y).setCell ⟨w.heap.size, 2, none⟩ z).alloc q) :=
  (below3 ((Below.refl _ _).alloc (Nat.le_refl _) _) hb (by simp) x y z).alloc (by have := hb.size; simp [World.setCell] at *; omega) q

theorem new0 (W : World) (v0 v1 v2 : Value) (T : TypeId) {g : Nat} (hg : g = W.heap.size) : (W.alloc (.cells #[v0, v1, v2] T)).drew.cell? ⟨g, 0, none⟩ = some v0 := by
  subst hg; simp
theorem new1 (W : World) (v0 v1 v2 : Value) (T : TypeId) {g : Nat} (hg : g = W.heap.size) : (W.alloc (.cells #[v0, v1, v2] T)).drew.cell? ⟨g, 1, none⟩ = some v1 := by
  subst hg; simp
theorem cut_text (s : ByteArray) (n x : Int) (hn0 : 0 ≤ n) (hx0 : 0 ≤ x) (h : x + n ≤ s.size) (W : World) :
    (Instr.slice 9 (.string s) (some (.int .i64 x)) (some (.int .i64 (x + n))) none).run Tryd.prog W = .ok (.string (s.extract x.toNat (x + n).toNat)) W := by
  have hu : Tryd.prog.underlying 9 = some .string := Tryd.underlying9
  obtain ⟨p, rfl⟩ : ∃ p : Nat, x = (p : Int) := ⟨x.toNat, by omega⟩
  obtain ⟨q, rfl⟩ : ∃ q : Nat, n = (q : Int) := ⟨n.toNat, by omega⟩
  have h' : p + q ≤ s.size := by omega
  rw [run_slice_string (P := Tryd.prog) (w := W) 9 s .i64 .i64 (p : Int) ((p : Int) + (q : Int)) hu (by omega) (by omega) (by omega)]

end Go.Proofs.YthmofcckjakhkaaDoor.GetR
