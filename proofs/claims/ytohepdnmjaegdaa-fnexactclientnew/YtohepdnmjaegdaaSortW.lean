/- Proves what impl's generic functions make of ops: two rows in order brought together, and a row in order. -/
import Derived.Test.YtohepdnmjaegdaaSortM
import Derived.Test.YtohepdnmjaegdaaIOp
import Derived.Test.YtohepdnmjaegdaaRowO
namespace Go.Proofs.Ytohepdnmjaegdaa.OpR
open Go.ChangeShapes Go.WideShapes Go.ChangeAt Go.RowKit
set_option linter.unusedVariables false

theorem make_cap (n : Nat) (N : Int) (hN : N = (n : Int)) (hn : n ≤ 1048576) (w : World) : (Instr.makeSlice 22 (.int .i64 0) (.int .i64 N)).run Try.prog w = .ok (.slice (some ⟨w.heap.size, 0, none⟩) 0 n) (w.alloc (.cells (opsArr (List.replicate n OpV.zero)) 42)) := by
  subst hN
  obtain ⟨i, hi, hz⟩ := Option.map_eq_some_iff.1 infoOp
  simp only [Prod.mk.injEq] at hz
  obtain ⟨hz, hs, hb⟩ := hz
  have h := run_make (P := Try.prog) w 22 42 i _ Try.underlying22 hi hz .i64 .i64 0 n (by omega) (by omega) (by rw [hb]; omega) (by omega)
  simp only [Int.toNat_natCast, hs] at h
  rw [← made_ops n]
  exact h
def aheadFn : Value := .func (.func 45) #[] #[]

theorem op_news (x : World) (o : OpV) (T : TypeId) : ∀ j u, o.cells[j]? = some u → (x.alloc (.cells #[.int .i64 o.time, .int .i64 o.repl, .int .i64 o.kind, .int .i64 o.node, .int .i64 o.parent, .string o.name, .string o.value] T)).drew.cell? ((⟨x.heap.size, 0, none⟩ : Addr).add j) = some u := by
  intro j u hu
  rw [Addr.add_lit, Nat.zero_add]
  show (x.alloc (.cells #[.int .i64 o.time, .int .i64 o.repl, .int .i64 o.kind, .int .i64 o.node, .int .i64 o.parent, .string o.name, .string o.value] T)).cell? ⟨x.heap.size, j, none⟩ = some u
  rw [World.cell?_alloc_at _ _ _ _ rfl]
  simpa [OpV.cells] using hu
def sliceLen : Value → Nat
  | .slice _ n _ => n
  | _ => 0
end Go.Proofs.Ytohepdnmjaegdaa.OpR
