/- Proves what spec.GetText answers, given what spec.GetNum does. -/
import Derived.Test.YtlphcbgeagmopaaGetLB
import Derived.Deep.RegionHeld3
namespace Go.Proofs.Ytlphcbgeagmopaa.GetR
open Go.ChangeShapes Go.WideShapes Go.ChangeAt Go.RowKit Go.ChangeMaps
set_option linter.unusedVariables false

def txt (t : ByteArray) (x c : Int) : Value := .agg #[.string t, .int .i64 x, .int .i64 c]

theorem below3a {w w1 : World} {o : Obj} (hb : Below (w.alloc o).heap.size (w.alloc o) w1) (x y z : Value) (q : Obj) :
    Below w.heap.size w ((((w1.setCell ⟨w.heap.size, 0, none⟩ x).setCell ⟨w.heap.size, 1, none⟩ y).setCell ⟨w.heap.size, 2, none⟩ z).alloc q) :=
  (below3 ((Below.refl _ _).alloc (Nat.le_refl _) _) hb (by simp) x y z).alloc (by have := hb.size; simp [World.setCell] at *; omega) q

set_option maxRecDepth 100000 in
set_option maxHeartbeats 400000 in
theorem sText_fault (s : ByteArray) (a c : Int) (hc : c ≠ 0) (w : World)
    (hS : ∀ w, Calls Try.prog 138 #[.string s, .int .i64 a] w fun e w' => e = .returned (num 0 0 c) ∧ Below w.heap.size w w') :
    Calls Try.prog 139 #[.string s, .int .i64 a] w fun e w' => e = .returned (txt ⟨#[]⟩ 0 c) ∧ Below w.heap.size w w' := by
  unfold num at hS
  have hcb : (c == 0) = false := by simpa using hc
  go_enter Try.func139, Try.ntmps139
  go_wp2_with (first | (go_at_call 138; refine (hS _).mono ?_; rintro e w1 ⟨rfl, hb1⟩; obtain ⟨c0, c1, c2, f0, f1, f2, hlt⟩ := kept3 hb1 (g := w.heap.size) (heap_alloc_new w _) (by simp)))
  exact bodyPost_ret (v := txt ⟨#[]⟩ 0 c) (by simp [results, Try.results139, go_sem, txt, c0, c1, c2, hlt]) rfl ⟨rfl, below3a hb1 _ _ _ _⟩
set_option maxRecDepth 100000 in
set_option maxHeartbeats 400000 in
theorem sText_syn (s : ByteArray) (a n x : Int) (w : World) (hn : n < 0 ∨ 8000 < n)
    (hS : ∀ w, Calls Try.prog 138 #[.string s, .int .i64 a] w fun e w' => e = .returned (num n x 0) ∧ Below w.heap.size w w') :
    Calls Try.prog 139 #[.string s, .int .i64 a] w fun e w' => e = .returned (txt ⟨#[]⟩ 0 3) ∧ Below w.heap.size w w' := by
  unfold num at hS
  by_cases h : n < 0
  · go_enter Try.func139, Try.ntmps139
    go_wp2_with (first | (go_at_call 138; refine (hS _).mono ?_; rintro e w1 ⟨rfl, hb1⟩; obtain ⟨c0, c1, c2, f0, f1, f2, hlt⟩ := kept3 hb1 (g := w.heap.size) (heap_alloc_new w _) (by simp)))
    exact bodyPost_ret (v := txt ⟨#[]⟩ 0 3) (by simp [results, Try.results139, go_sem, txt, c0, c1, c2, hlt]) rfl ⟨rfl, below3a hb1 _ _ _ _⟩
  · have h2 : 8000 < n := by omega
    clear hn
    go_enter Try.func139, Try.ntmps139
    go_wp2_with (first | (go_at_call 138; refine (hS _).mono ?_; rintro e w1 ⟨rfl, hb1⟩; obtain ⟨c0, c1, c2, f0, f1, f2, hlt⟩ := kept3 hb1 (g := w.heap.size) (heap_alloc_new w _) (by simp)))
    exact bodyPost_ret (v := txt ⟨#[]⟩ 0 3) (by simp [results, Try.results139, go_sem, txt, c0, c1, c2, hlt]) rfl ⟨rfl, below3a hb1 _ _ _ _⟩
set_option maxRecDepth 100000 in
set_option maxHeartbeats 400000 in
theorem sText_short (s : ByteArray) (a n x : Int) (w : World) (hs : s.size ≤ 8000) (hn0 : 0 ≤ n) (hn1 : n ≤ 8000) (hx0 : 0 ≤ x) (hx1 : x ≤ s.size) (h : (s.size : Int) - n < x)
    (hS : ∀ w, Calls Try.prog 138 #[.string s, .int .i64 a] w fun e w' => e = .returned (num n x 0) ∧ Below w.heap.size w w') :
    Calls Try.prog 139 #[.string s, .int .i64 a] w fun e w' => e = .returned (txt ⟨#[]⟩ 0 4) ∧ Below w.heap.size w w' := by
  unfold num at hS
  go_enter Try.func139, Try.ntmps139
  go_wp2_with (first | (go_at_call 138; refine (hS _).mono ?_; rintro e w1 ⟨rfl, hb1⟩; obtain ⟨c0, c1, c2, f0, f1, f2, hlt⟩ := kept3 hb1 (g := w.heap.size) (heap_alloc_new w _) (by simp)))
  exact bodyPost_ret (v := txt ⟨#[]⟩ 0 4) (by simp [results, Try.results139, go_sem, txt, c0, c1, c2, hlt]) rfl ⟨rfl, below3a hb1 _ _ _ _⟩

theorem new0 (W : World) (v0 v1 v2 : Value) (T : TypeId) {g : Nat} (hg : g = W.heap.size) : (W.alloc (.cells #[v0, v1, v2] T)).drew.cell? ⟨g, 0, none⟩ = some v0 := by
  subst hg; simp
theorem new1 (W : World) (v0 v1 v2 : Value) (T : TypeId) {g : Nat} (hg : g = W.heap.size) : (W.alloc (.cells #[v0, v1, v2] T)).drew.cell? ⟨g, 1, none⟩ = some v1 := by
  subst hg; simp
theorem cut_text (s : ByteArray) (n x : Int) (hn0 : 0 ≤ n) (hx0 : 0 ≤ x) (h : x + n ≤ s.size) (W : World) :
    (Instr.slice 9 (.string s) (some (.int .i64 x)) (some (.int .i64 (x + n))) none).run Try.prog W = .ok (.string (s.extract x.toNat (x + n).toNat)) W := by
  have hu : Try.prog.underlying 9 = some .string := Try.underlying9
  obtain ⟨p, rfl⟩ : ∃ p : Nat, x = (p : Int) := ⟨x.toNat, by omega⟩
  obtain ⟨q, rfl⟩ : ∃ q : Nat, n = (q : Int) := ⟨n.toNat, by omega⟩
  have h' : p + q ≤ s.size := by omega
  rw [run_slice_string (P := Try.prog) (w := W) 9 s .i64 .i64 (p : Int) ((p : Int) + (q : Int)) hu (by omega) (by omega) (by omega)]

set_option maxRecDepth 100000 in
set_option maxHeartbeats 400000 in
theorem sText_right (s : ByteArray) (a n x : Int) (w : World) (hs : s.size ≤ 8000) (hn0 : 0 ≤ n) (hn1 : n ≤ 8000) (hx0 : 0 ≤ x) (hx1 : x ≤ s.size) (h : ¬ (s.size : Int) - n < x)
    (hS : ∀ w, Calls Try.prog 138 #[.string s, .int .i64 a] w fun e w' => e = .returned (num n x 0) ∧ Below w.heap.size w w') :
    Calls Try.prog 139 #[.string s, .int .i64 a] w fun e w' => e = .returned (txt (s.extract x.toNat (x + n).toNat) (x + n) 0) ∧ Below w.heap.size w w' := by
  unfold num at hS
  have hsl := cut_text s n x hn0 hx0 (by omega)
  have hwr : IntKind.i64.wrap (x + n) = x + n := Go.IntWalk.i64_in _ (by omega)
  go_enter Try.func139, Try.ntmps139
  go_wp2_with (first | (go_at_call 138; refine (hS _).mono ?_; rintro e w1 ⟨rfl, hb1⟩; obtain ⟨c0, c1, c2, f0, f1, f2, hlt⟩ := kept3 hb1 (g := w.heap.size) (heap_alloc_new w _) (by simp)))
  go_region_held3 (fun w' => w'.cell? ⟨w1.heap.size, 0, none⟩ = some (.int .i64 n) ∧ w'.cell? ⟨w1.heap.size, 1, none⟩ = some (.int .i64 x)) (first | exact ⟨new0 _ _ _ _ _ (by simp [World.setCell]), new1 _ _ _ _ _ (by simp [World.setCell])⟩ | go_keep) (fail)
  go_wp2
  exact bodyPost_ret (v := txt (s.extract x.toNat (x + n).toNat) (x + n) 0) (by simp [results, Try.results139, go_sem, txt, c0, c1, c2, hlt]) rfl ⟨rfl, (below3a hb1 _ _ _ _).drew⟩
end Go.Proofs.Ytlphcbgeagmopaa.GetR
