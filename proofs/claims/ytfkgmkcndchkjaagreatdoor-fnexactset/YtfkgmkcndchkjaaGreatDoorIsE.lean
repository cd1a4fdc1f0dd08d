/- Proves what errors.Is tells of two of the program's own errors, and impl.refusedCode. -/
import Derived.Test.YtfkgmkcndchkjaaGreatDoorOpM
import Derived.LaidEql
import Derived.Stop.Asserts
import Derived.RowKitTokens
namespace Go.Proofs.YtfkgmkcndchkjaaGreatDoor.OpR
open Go.ChangeShapes Go.WideShapes Go.ChangeAt Go.RowKit Go.Extern.Stop Go.Stop Go.Extern
set_option linter.unusedVariables false

/-- Where the seven errors lie: their variables, and what these lead to. -/
structure Sents (W : World) (f : Nat → Addr) : Prop where
  var : ∀ g, g < 7 → W.cell? ⟨g, 0, none⟩ = some (.iface 235 (.pointer (some (f g))))
  row : ∀ g, g < 7 → ∃ cs t, W.heap[(f g).block]? = some (.cells cs t (0, 0))
  ne : ∀ g h, g < 7 → h < 7 → g ≠ h → f g ≠ f h
  low : ∀ g, g < 7 → g < W.heap.size
theorem Sents.step {W W' : World} {f : Nat → Addr} (h : Sents W f) (hb : Below W.heap.size W W') : Sents W' f :=
  ⟨fun g hg => by rw [← h.var g hg]; simp only [World.cell?, hb.block g (h.low g hg)], fun g hg => by
    obtain ⟨cs, t, e⟩ := h.row g hg
    exact ⟨cs, t, (hb.block _ (Array.getElem?_eq_some_iff.1 e).1).trans e⟩, h.ne, fun g hg => Nat.lt_of_lt_of_le (h.low g hg) hb.size⟩
def errV (f : Nat → Addr) (g : Nat) : Value := .iface 235 (.pointer (some (f g)))
theorem isTypeOf (v : Value) (w : World) : (Extern.ReflectliteType.typeOf #[.iface 235 v]).run Tryz.prog w = .ok (.iface 204 (.agg #[typeHandle Tryz.prog 235])) w := by kernel_rfl
theorem isComparable (w : World) : (callFunc 215 #[.agg #[typeHandle Tryz.prog 235]]).run Tryz.prog w = .ok (.value (.bool true)) w := by
  obtain ⟨e, he⟩ := Option.isSome_iff_exists.1 (show (Extern.find Tryz.f215).isSome = true by kernel_rfl)
  refine (@run_callFunc_extern Tryz.prog 215 _ e Tryz.func215 (by kernel_rfl) (by kernel_rfl) (by kernel_rfl) he _ w).trans ?_
  have h : (Extern.find Tryz.f215).map (fun e => (e #[.agg #[typeHandle Tryz.prog 235]]).run Tryz.prog w) = some (.ok (.bool true) w) := by kernel_rfl
  rw [he] at h
  have h2 : Sem.run Tryz.prog (e #[.agg #[typeHandle Tryz.prog 235]]) w = .ok (.bool true) w := Option.some.inj h
  rw [h2]
  rfl
theorem isMethodComparable (v : Value) (w : World) : (Go.method 370 204 v "Comparable").run Tryz.prog w = .ok (215, v) w := by kernel_rfl
theorem isComp : (Tryz.prog.info? 235).map (·.comparable) = some true := by kernel_rfl
theorem isSize : (Tryz.prog.info? 258).map (·.size) = some 1 := by kernel_rfl
theorem noIsE (v : Value) (xT : TypeId) (w : World) : (Instr.typeAssert (.iface 235 v) xT 206 true).run Tryz.prog w = .ok (.tuple #[.nilIface, .bool false]) w := run_typeAssert_lacksB Tryz.underlying206 (by kernel_rfl) (by kernel_rfl) v xT w
theorem noUnwrapE (v : Value) (xT : TypeId) (w : World) : (Instr.typeAssert (.iface 235 v) xT 209 true).run Tryz.prog w = .ok (.tuple #[.nilIface, .bool false]) w := run_typeAssert_lacksB Tryz.underlying209 (by kernel_rfl) (by kernel_rfl) v xT w
theorem noUnwrapsE (v : Value) (xT : TypeId) (w : World) : (Instr.typeAssert (.iface 235 v) xT 211 true).run Tryz.prog w = .ok (.tuple #[.nilIface, .bool false]) w := run_typeAssert_lacksB Tryz.underlying211 (by kernel_rfl) (by kernel_rfl) v xT w
set_option maxRecDepth 100000 in
set_option maxHeartbeats 1000000 in
theorem is_self (a : Addr) (w : World) :
    Calls Tryz.prog 114 #[.iface 235 (.pointer (some a)), .iface 235 (.pointer (some a))] w fun e w' => e = .returned (.bool true) ∧ w' = w := by
  obtain ⟨i, hi, hcmp⟩ := Option.map_eq_some_iff.1 isComp
  obtain ⟨j, hj, hjs⟩ := Option.map_eq_some_iff.1 isSize
  have h8 := @run_callFunc_extern Tryz.prog 148 _ Extern.ReflectliteType.typeOf Tryz.func148 (by kernel_rfl) (by kernel_rfl) (by kernel_rfl) (by kernel_rfl)
  have tT := isTypeOf
  have cT := isComparable
  have mR := isMethodComparable
  have heq := run_eql_iface_ptr_same (P := Tryz.prog) w a Tryz.underlying80 Tryz.underlying235 hi hcmp hj
  go_enter Tryz.func114, Tryz.ntmps114
  go_wp2
  refine wp_loop_rounds 1 ?_
  rw [rounds_succ]
  go_wp2
  go_ret
  exact ⟨rfl, rfl⟩
set_option maxRecDepth 100000 in
set_option maxHeartbeats 1000000 in
theorem is_apart (a b : Addr) (ca cb : Array Value) (ta tb : TypeId) (w : World) (hne : a ≠ b) (ha : w.heap[a.block]? = some (.cells ca ta (0, 0))) (hb : w.heap[b.block]? = some (.cells cb tb (0, 0))) :
    Calls Tryz.prog 114 #[.iface 235 (.pointer (some a)), .iface 235 (.pointer (some b))] w fun e w' => e = .returned (.bool false) ∧ w' = w := by
  obtain ⟨i, hi, hcmp⟩ := Option.map_eq_some_iff.1 isComp
  obtain ⟨j, hj, hjs⟩ := Option.map_eq_some_iff.1 isSize
  have h8 := @run_callFunc_extern Tryz.prog 148 _ Extern.ReflectliteType.typeOf Tryz.func148 (by kernel_rfl) (by kernel_rfl) (by kernel_rfl) (by kernel_rfl)
  have tT := isTypeOf
  have cT := isComparable
  have mR := isMethodComparable
  have nE := noIsE
  have uE := noUnwrapE
  have vE := noUnwrapsE
  have heq := run_eql_iface_ptr_other (P := Tryz.prog) w Tryz.underlying80 Tryz.underlying235 hi hcmp hj (by rw [hjs]; decide) hne ha hb
  go_enter Tryz.func114, Tryz.ntmps114
  go_wp2
  refine wp_loop_rounds 1 ?_
  rw [rounds_succ]
  go_wp2
  go_ret
  exact ⟨rfl, rfl⟩
theorem errIs_any {w : World} {f : Nat → Addr} (hS : Sents w f) {g h : Nat} (hg : g < 7) (hh : h < 7) :
    Calls Tryz.prog 114 #[errV f g, errV f h] w fun e w' => e = .returned (.bool (decide (g = h))) ∧ w = w' := by
  by_cases e : g = h
  · subst e
    exact (is_self (f g) w).mono fun e w' ⟨h1, h2⟩ => ⟨by rw [h1]; simp, h2.symm⟩
  · obtain ⟨ca, ta, ha⟩ := hS.row g hg
    obtain ⟨cb, tb, hb⟩ := hS.row h hh
    exact (is_apart (f g) (f h) ca cb ta tb w (hS.ne g h hg hh e) ha hb).mono fun e' w' ⟨h1, h2⟩ => ⟨by rw [h1]; simp [e], h2.symm⟩
/-- The error of a code. -/
def gOf (code : Int) : Nat := if code = 2 then 0 else if code = 1 then 1 else if code = 6 then 3 else if code = 7 then 5 else if code = 8 then 6 else if code = 9 then 2 else 4
def ErrCode (c : Int) : Prop := c = 2 ∨ c = 1 ∨ c = 6 ∨ c = 7 ∨ c = 8 ∨ c = 9 ∨ c = 10
theorem gOf_lt (c : Int) : gOf c < 7 := by
  unfold gOf
  repeat' split
  all_goals decide
set_option maxRecDepth 100000 in
set_option maxHeartbeats 1000000 in
theorem refused_any {w : World} {f : Nat → Addr} (hS : Sents w f) {c : Int} (hc : ErrCode c) :
    Calls Tryz.prog 80 #[errV f (gOf c)] w fun e w' => e = .returned (.int .i64 c) ∧ Below w.heap.size w w' := by
  have his := fun W (hW : Below w.heap.size w W) g h hg hh => errIs_any (hS.step hW) (g := g) (h := h) hg hh
  have v0 := hS.var 0 (by omega)
  have v1 := hS.var 1 (by omega)
  have v2 := hS.var 2 (by omega)
  have v3 := hS.var 3 (by omega)
  have v4 := hS.var 4 (by omega)
  have v5 := hS.var 5 (by omega)
  have v6 := hS.var 6 (by omega)
  have HI := hide his
  unfold errV at *
  clear his hS
  rcases hc with rfl | rfl | rfl | rfl | rfl | rfl | rfl
  all_goals (
    simp only [gOf]
    go_enter Tryz.func80, Tryz.ntmps80
    go_wp2_with (first | (go_at_call 114; refine (HI.out w (Below.refl _ _) _ _ (by decide) (by decide)).mono ?_; rintro e w1 ⟨rfl, rfl⟩))
    all_goals (try (exfalso; simp_all; done))
    go_ret
    exact ⟨rfl, Below.refl _ _⟩)
end Go.Proofs.YtfkgmkcndchkjaaGreatDoor.OpR
