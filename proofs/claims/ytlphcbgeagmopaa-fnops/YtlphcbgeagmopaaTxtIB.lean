/- Proves what impl.readText and impl.GetText answer, given what impl.readNum does; and the law FnExactGetText's walk. -/
import Derived.Test.YtlphcbgeagmopaaTxtSB
import Derived.Test.YtlphcbgeagmopaaJoin
namespace Go.Proofs.Ytlphcbgeagmopaa.GetR
open Go.ChangeShapes Go.WideShapes Go.ChangeAt Go.RowKit Go.ChangeMaps
set_option linter.unusedVariables false

theorem cat_one (a : ByteArray) : (⟨(NumR.cat [a]).toArray⟩ : ByteArray) = a := by
  apply ByteArray.ext
  apply Array.toList_inj.1
  simp [NumR.cat]
theorem joined_one (a : ByteArray) (w : World) (T : TypeId) (ha : a.size ≤ 8000) :
    Calls Try.prog 54 #[.slice (some ⟨w.heap.size, 0, none⟩) 1 1] (w.alloc (.cells #[.string a] T)) fun e w' => e = .returned (.string a) ∧ Below (w.alloc (.cells #[.string a] T)).heap.size (w.alloc (.cells #[.string a] T)) w' := by
  have h := NumR.joined_any [a] w.heap.size (w.alloc (.cells #[.string a] T)) (by simp) (fun j hj => by
    match j, hj with
    | 0, _ => simp) (by simp [NumR.cat]; omega) (by simp)
  rw [cat_one] at h
  exact h

set_option maxRecDepth 100000 in
set_option maxHeartbeats 400000 in
theorem rText_fault (s : ByteArray) (a c : Int) (w : World)
    (hR : ∀ w, Calls Try.prog 136 #[.string s, .int .i64 a] w fun e w' => e = .returned (.tuple #[.int .i64 0, .int .i64 0, .iface 185 (.agg #[.int .i64 c])]) ∧ w' = w) :
    Calls Try.prog 153 #[.string s, .int .i64 a] w fun e w' => e = .returned (.tuple #[.string ⟨#[]⟩, .int .i64 0, .iface 185 (.agg #[.int .i64 c])]) ∧ Below w.heap.size w w' := by
  go_enter Try.func153, Try.ntmps153
  go_wp2_with (first | (go_at_call 136; refine (hR _).mono ?_; rintro e w0 ⟨rfl, hw0⟩; subst hw0))
  go_ret3
  exact ⟨rfl, Below.refl _ _⟩
set_option maxRecDepth 100000 in
set_option maxHeartbeats 400000 in
theorem rText_syn (s : ByteArray) (a n x : Int) (w : World) (hn : n < 0 ∨ 8000 < n)
    (hR : ∀ w, Calls Try.prog 136 #[.string s, .int .i64 a] w fun e w' => e = .returned (.tuple #[.int .i64 n, .int .i64 x, .nilIface]) ∧ w' = w) :
    Calls Try.prog 153 #[.string s, .int .i64 a] w fun e w' => e = .returned (.tuple #[.string ⟨#[]⟩, .int .i64 0, .iface 185 (.agg #[.int .i64 3])]) ∧ Below w.heap.size w w' := by
  by_cases h : n < 0
  · go_enter Try.func153, Try.ntmps153
    go_wp2_with (first | (go_at_call 136; refine (hR _).mono ?_; rintro e w0 ⟨rfl, hw0⟩; subst hw0))
    go_ret3
    exact ⟨rfl, Below.refl _ _⟩
  · have h2 : 8000 < n := by omega
    clear hn
    go_enter Try.func153, Try.ntmps153
    go_wp2_with (first | (go_at_call 136; refine (hR _).mono ?_; rintro e w0 ⟨rfl, hw0⟩; subst hw0))
    go_ret3
    exact ⟨rfl, Below.refl _ _⟩
set_option maxRecDepth 100000 in
set_option maxHeartbeats 400000 in
theorem rText_short (s : ByteArray) (a n x : Int) (w : World) (hs : s.size ≤ 8000) (hn0 : 0 ≤ n) (hn1 : n ≤ 8000) (hx0 : 0 ≤ x) (hx1 : x ≤ s.size) (h : (s.size : Int) - x < n)
    (hR : ∀ w, Calls Try.prog 136 #[.string s, .int .i64 a] w fun e w' => e = .returned (.tuple #[.int .i64 n, .int .i64 x, .nilIface]) ∧ w' = w) :
    Calls Try.prog 153 #[.string s, .int .i64 a] w fun e w' => e = .returned (.tuple #[.string ⟨#[]⟩, .int .i64 0, .iface 185 (.agg #[.int .i64 4])]) ∧ Below w.heap.size w w' := by
  go_enter Try.func153, Try.ntmps153
  go_wp2_with (first | (go_at_call 136; refine (hR _).mono ?_; rintro e w0 ⟨rfl, hw0⟩; subst hw0))
  go_ret3
  exact ⟨rfl, Below.refl _ _⟩
set_option maxRecDepth 100000 in
set_option maxHeartbeats 400000 in
theorem rText_right (s : ByteArray) (a n x : Int) (w : World) (hs : s.size ≤ 8000) (hn0 : 0 ≤ n) (hn1 : n ≤ 8000) (hx0 : 0 ≤ x) (hx1 : x ≤ s.size) (h : ¬ (s.size : Int) - x < n)
    (hR : ∀ w, Calls Try.prog 136 #[.string s, .int .i64 a] w fun e w' => e = .returned (.tuple #[.int .i64 n, .int .i64 x, .nilIface]) ∧ w' = w) :
    Calls Try.prog 153 #[.string s, .int .i64 a] w fun e w' => e = .returned (.tuple #[.string (s.extract x.toNat (x + n).toNat), .int .i64 (x + n), .nilIface]) ∧ Below w.heap.size w w' := by
  have hj := fun w => joined_one (s.extract x.toNat (x + n).toNat) w 9 (by simp; omega)
  have hsl := cut_text s n x hn0 hx0 (by omega)
  go_enter Try.func153, Try.ntmps153
  go_wp2_with (first | (go_at_call 136; refine (hR _).mono ?_; rintro e w0 ⟨rfl, hw0⟩; subst hw0) | (go_at_call 54; refine (hj _).mono ?_; rintro e w2 ⟨rfl, hb2⟩))
  go_ret3
  exact ⟨rfl, ((Below.refl _ _).alloc (Nat.le_refl _) _).trans (hb2.mono (by simp))⟩

end Go.Proofs.Ytlphcbgeagmopaa.GetR
