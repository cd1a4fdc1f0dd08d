/- Proves what spec.PutText and impl.PutText answer at every text: the same bytes, in new memory alone. -/
import Derived.Test.YtlphcbgeagmopaaNumW
import Derived.Test.YtlphcbgeagmopaaJoin
namespace Go.Proofs.Ytlphcbgeagmopaa.NumR
open Go.ChangeShapes Go.WideShapes Go.ChangeAt Go.RowKit
set_option linter.unusedVariables false

theorem leb_len {u : Nat} (h : u < 2097152) : (leb u).length ≤ 3 := by
  by_cases h1 : u < 128
  · rw [leb_last h1]; simp
  · rw [leb_more h1]
    by_cases h2 : u / 128 < 128
    · rw [leb_last h2]; simp
    · rw [leb_more h2, leb_last (by omega)]; simp
def putNum (n : Int) : ByteArray := ⟨(leb (foldI n).toNat).toArray⟩
theorem putNum_size {n : Int} (h1 : 0 ≤ n) (h2 : n ≤ 8000) : (putNum n).size ≤ 3 := by
  show (leb (foldI n).toNat).toArray.size ≤ 3
  simp only [List.size_toArray]
  refine leb_len ?_
  rw [foldI_pos (by omega)]; omega
def putText (t : ByteArray) : ByteArray := if 8000 < t.size then ByteArray.empty else ⟨(cat [putNum t.size, t]).toArray⟩
theorem putText_yes {t : ByteArray} (h : ¬ 8000 < t.size) : putText t = ⟨(cat [putNum t.size, t]).toArray⟩ := if_neg h
theorem putText_no {t : ByteArray} (h : 8000 < t.size) : putText t = ByteArray.empty := if_pos h
theorem cat_two (a b : ByteArray) : (⟨(cat [a, b]).toArray⟩ : ByteArray) = a ++ b := by
  apply ByteArray.ext
  apply Array.toList_inj.1
  simp [cat]

set_option maxRecDepth 100000 in
set_option maxHeartbeats 400000 in
theorem sText_any (t : ByteArray) (w : World) (ht : t.size ≤ maxLen) :
    Calls Try.prog 108 #[.string t] w fun e w' => e = .returned (.string (putText t)) ∧ Below w.heap.size w w' := by
  unfold maxLen at ht
  by_cases h : 8000 < t.size
  · go_enter Try.func108, Try.ntmps108
    go_wp2
    go_ret
    exact ⟨ret_str (putText_no h).symm, Below.refl _ _⟩
  · have hput : ∀ w, Calls Try.prog 107 #[.int .i64 (t.size : Int)] w fun e w' => e = .returned (.string (putNum t.size)) ∧ Below w.heap.size w w' := fun w => sPut_any _ (by omega) (by omega) w
    have hsz := putNum_size (n := t.size) (by omega) (by omega)
    go_enter Try.func108, Try.ntmps108
    go_wp2_with (first | (go_at_call 107; refine (hput _).mono ?_; rintro e w1 ⟨rfl, hb1⟩))
    go_ret
    exact ⟨ret_str (by rw [putText_yes h, cat_two]), hb1⟩

theorem joined_two (a b : ByteArray) (w : World) (T : TypeId) (ha : a.size ≤ 3) (hb : ¬ 8000 < b.size) :
    Calls Try.prog 54 #[.slice (some ⟨w.heap.size, 0, none⟩) 2 2] (w.alloc (.cells #[.string a, .string b] T)) fun e w' => e = .returned (.string ⟨(cat [a, b]).toArray⟩) ∧ Below (w.alloc (.cells #[.string a, .string b] T)).heap.size (w.alloc (.cells #[.string a, .string b] T)) w' := by
  refine joined_any [a, b] w.heap.size _ (by simp) (fun j hj => ?_) (by simp [cat]; omega) (by simp)
  match j, hj with
  | 0, _ => simp
  | 1, _ => simp

set_option maxRecDepth 100000 in
set_option maxHeartbeats 400000 in
theorem iText_any (t : ByteArray) (w : World) (ht : t.size ≤ maxLen) :
    Calls Try.prog 53 #[.string t] w fun e w' => e = .returned (.string (putText t)) ∧ Below w.heap.size w w' := by
  unfold maxLen at ht
  by_cases h : 8000 < t.size
  · go_enter Try.func53, Try.ntmps53
    go_wp2
    go_ret
    exact ⟨ret_str (putText_no h).symm, Below.refl _ _⟩
  · have hput : ∀ w, Calls Try.prog 52 #[.int .i64 (t.size : Int)] w fun e w' => e = .returned (.string (putNum t.size)) ∧ Below w.heap.size w w' := fun w => iPut_any _ (by omega) (by omega) w
    have hsz := putNum_size (n := t.size) (by omega) (by omega)
    go_enter Try.func53, Try.ntmps53
    go_wp2_with (first | (go_at_call 52; refine (hput _).mono ?_; rintro e w1 ⟨rfl, hb1⟩) | (go_at_call 54; refine (joined_two _ _ _ _ hsz h).mono ?_; rintro e w2 ⟨rfl, hb2⟩))
    go_ret
    exact ⟨ret_str (putText_yes h).symm, (hb1.alloc hb1.size _).trans (hb2.mono (by have := hb1.size; simp; omega))⟩
end Go.Proofs.Ytlphcbgeagmopaa.NumR
