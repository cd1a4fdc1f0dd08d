/- Proves what spec.Unseal and impl.Unseal answer at every text: the same fields, in new memory alone. -/
import Derived.Test.YthmofcckjakhkaaSealW
import Derived.Deep.RegionHeld3
namespace Go.Proofs.Ythmofcckjakhkaa.NumR
open Go.ChangeShapes Go.WideShapes Go.ChangeAt Go.RowKit Go.ChangeMaps
set_option linter.unusedVariables false

def inner (s : ByteArray) : ByteArray := s.extract 0 (s.size - 4)
def tail4 (s : ByteArray) : ByteArray := s.extract (s.size - 4) s.size
def txt (t : ByteArray) (at_ code : Int) : Value := .agg #[.string t, .int .i64 at_, .int .i64 code]

theorem cells3 {w : World} {g : Nat} {v0 v1 v2 : Value} {T : TypeId} (h : w.heap[g]? = some (.cells #[v0, v1, v2] T (0, 0))) :
    w.cell? ⟨g, 0, none⟩ = some v0 ∧ w.cell? ⟨g, 1, none⟩ = some v1 ∧ w.cell? ⟨g, 2, none⟩ = some v2 ∧ w.frozen? ⟨g, 0, none⟩ = false ∧ w.frozen? ⟨g, 1, none⟩ = false ∧ w.frozen? ⟨g, 2, none⟩ = false ∧ g < w.heap.size := by
  refine ⟨by simp [World.cell?, h], by simp [World.cell?, h], by simp [World.cell?, h], by simp [World.frozen?, h], by simp [World.frozen?, h], by simp [World.frozen?, h], ?_⟩
  exact (Array.getElem?_eq_some_iff.1 h).1
theorem kept3 {W w1 : World} {B g : Nat} {v0 v1 v2 : Value} {T : TypeId} (hb : Below B W w1) (h : W.heap[g]? = some (.cells #[v0, v1, v2] T (0, 0))) (hg : g < B) :
    w1.cell? ⟨g, 0, none⟩ = some v0 ∧ w1.cell? ⟨g, 1, none⟩ = some v1 ∧ w1.cell? ⟨g, 2, none⟩ = some v2 ∧ w1.frozen? ⟨g, 0, none⟩ = false ∧ w1.frozen? ⟨g, 1, none⟩ = false ∧ w1.frozen? ⟨g, 2, none⟩ = false ∧ g < w1.heap.size :=
  cells3 ((hb.block g hg).trans h)

theorem below3 {w W w1 : World} {B : Nat} (h : Below w.heap.size w W) (hb : Below B W w1) (hB : w.heap.size ≤ B) (x y z : Value) :
    Below w.heap.size w (((w1.setCell ⟨w.heap.size, 0, none⟩ x).setCell ⟨w.heap.size, 1, none⟩ y).setCell ⟨w.heap.size, 2, none⟩ z) :=
  (((h.trans (hb.mono hB)).setCell (Nat.le_refl _) _).setCell (Nat.le_refl _) _).setCell (Nat.le_refl _) _

theorem below_after {W w1 w2 : World} {o : Obj} (hb1 : Below W.heap.size W w1) (hb2 : Below (w1.alloc o).heap.size (w1.alloc o) w2) : Below W.heap.size W w2 :=
  (hb1.alloc hb1.size o).trans (hb2.mono (by have := hb1.size; simp; omega))
theorem neqB {a b : ByteArray} (h : ¬ a = b) : (a.toList == b.toList) = false := by
  simp only [ByteArray.toList_eq, beq_eq_false_iff_ne, ne_eq]
  exact fun e => h (ByteArray.ext (Array.toList_inj.1 e))
theorem inner_tail (s : ByteArray) (h : 4 ≤ s.size) : inner s ++ tail4 s = s := by
  apply ByteArray.ext
  apply Array.toList_inj.1
  have hl : s.data.toList.length = s.size := by simp
  have e : (inner s ++ tail4 s).data.toList = (inner s).data.toList ++ (tail4 s).data.toList := by simp
  rw [e]
  unfold inner tail4
  rw [Lib.extract_data, Lib.extract_data]
  simp only [List.drop_zero, Nat.sub_zero]
  rw [List.take_of_length_le (l := List.drop (s.size - 4) s.data.toList) (by rw [List.length_drop, hl]; omega), List.take_append_drop]
theorem inner_size (s : ByteArray) : (inner s).size = s.size - 4 := by unfold inner; simp
theorem seal_is {s : ByteArray} (h1 : 4 ≤ s.size) (h2 : s.size ≤ 8000) (h : sumB (inner s) = tail4 s) : sealB (inner s) = s := by
  rw [seal_yes (by rw [inner_size]; omega), h, inner_tail s h1]
theorem seal_isnt {s : ByteArray} (h1 : 4 ≤ s.size) (h2 : s.size ≤ 8000) (h : ¬ sumB (inner s) = tail4 s) : ¬ sealB (inner s) = s := by
  intro e
  apply h
  rw [seal_yes (by rw [inner_size]; omega)] at e
  have e2 : (inner s ++ sumB (inner s)).data.toList = (inner s ++ tail4 s).data.toList := by rw [e, inner_tail s h1]
  have e3 : (inner s).data.toList ++ (sumB (inner s)).data.toList = (inner s).data.toList ++ (tail4 s).data.toList := by simpa using e2
  exact ByteArray.ext (Array.toList_inj.1 (List.append_cancel_left e3))

theorem cut_tail (s : ByteArray) (h1 : 4 ≤ s.size) (W : World) :
    (Instr.slice 9 (.string s) (some (.int .i64 ((s.size : Int) - 4))) none none).run Try.prog W = .ok (.string (tail4 s)) W := by
  have hu : Try.prog.underlying 9 = some .string := Try.underlying9
  have e : (s.size : Int) - 4 = ((s.size - 4 : Nat) : Int) := by omega
  rw [e]
  simp [go_sem, hu, tail4]

theorem wrap_tail (s : ByteArray) (h1 : 4 ≤ s.size) (h2 : s.size ≤ 8000) : IntKind.i64.wrap ((s.size : Int) - 4) = (s.size : Int) - 4 := by
  exact Go.IntWalk.i64_in _ (by omega)

set_option maxRecDepth 100000 in
set_option maxHeartbeats 400000 in
theorem iUn_size (s : ByteArray) (w : World) (hs : s.size ≤ maxLen) (h : 8000 < s.size) :
    Calls Try.prog 8 #[.string s] w fun e w' => e = .returned (txt ⟨#[]⟩ 0 2) ∧ Below w.heap.size w w' := by
  unfold maxLen at hs
  go_enter Try.func8, Try.ntmps8
  go_wp2
  exact bodyPost_ret (v := txt ⟨#[]⟩ 0 2) (by simp [results, Try.results8, go_sem, txt]) rfl ⟨rfl, (Below.refl _ _).alloc (Nat.le_refl _) _⟩
set_option maxRecDepth 100000 in
set_option maxHeartbeats 400000 in
theorem iUn_short (s : ByteArray) (w : World) (h : s.size < 4) :
    Calls Try.prog 8 #[.string s] w fun e w' => e = .returned (txt ⟨#[]⟩ 0 4) ∧ Below w.heap.size w w' := by
  have h' : ¬ 8000 < s.size := by omega
  go_enter Try.func8, Try.ntmps8
  go_wp2
  exact bodyPost_ret (v := txt ⟨#[]⟩ 0 4) (by simp [results, Try.results8, go_sem, txt]) rfl ⟨rfl, (Below.refl _ _).alloc (Nat.le_refl _) _⟩
set_option maxRecDepth 100000 in
set_option maxHeartbeats 400000 in
theorem iUn_no (s : ByteArray) (w : World) (h1 : 4 ≤ s.size) (h2 : s.size ≤ 8000) (h : ¬ sumB (inner s) = tail4 s) :
    Calls Try.prog 8 #[.string s] w fun e w' => e = .returned (txt ⟨#[]⟩ 0 5) ∧ Below w.heap.size w w' := by
  have hne := neqB (seal_isnt h1 h2 h)
  clear h
  have hi := inner_size s
  have hse : ∀ w, Calls Try.prog 5 #[.string (inner s)] w fun e w' => e = .returned (.string (sealB (inner s))) ∧ Below w.heap.size w w' := fun w => iSeal_any _ w (by unfold maxLen; omega)
  clear hi
  unfold inner at *
  go_enter Try.func8, Try.ntmps8
  go_wp2_with (first | (go_at_call 5; refine (hse _).mono ?_; rintro e w1 ⟨rfl, hb1⟩; obtain ⟨c0, c1, c2, f0, f1, f2, hlt⟩ := kept3 hb1 (g := w.heap.size) (heap_alloc_new w _) (by simp)))
  exact bodyPost_ret (v := txt ⟨#[]⟩ 0 5) (by simp [results, Try.results8, go_sem, txt, c0, c1, c2]) rfl ⟨rfl, below3 ((Below.refl _ _).alloc (Nat.le_refl _) _) hb1 (by simp) _ _ _⟩
theorem cat_one (a : ByteArray) : (⟨(cat [a]).toArray⟩ : ByteArray) = a := by
  apply ByteArray.ext
  apply Array.toList_inj.1
  simp [cat]
theorem joined_one (a : ByteArray) (w : World) (T : TypeId) (ha : a.size ≤ 8000) :
    Calls Try.prog 17 #[.slice (some ⟨w.heap.size, 0, none⟩) 1 1] (w.alloc (.cells #[.string a] T)) fun e w' => e = .returned (.string a) ∧ Below (w.alloc (.cells #[.string a] T)).heap.size (w.alloc (.cells #[.string a] T)) w' := by
  have h := joined_any [a] w.heap.size (w.alloc (.cells #[.string a] T)) (by simp) (fun j hj => by
    match j, hj with
    | 0, _ => simp) (by simp [cat]; omega) (by simp)
  rw [cat_one] at h
  exact h
set_option maxRecDepth 100000 in
set_option maxHeartbeats 400000 in
theorem iUn_yes (s : ByteArray) (w : World) (h1 : 4 ≤ s.size) (h2 : s.size ≤ 8000) (h : sumB (inner s) = tail4 s) :
    Calls Try.prog 8 #[.string s] w fun e w' => e = .returned (txt (inner s) 0 0) ∧ Below w.heap.size w w' := by
  have hi := inner_size s
  have hse : ∀ w, Calls Try.prog 5 #[.string (inner s)] w fun e w' => e = .returned (.string s) ∧ Below w.heap.size w w' := fun w => by
    have := iSeal_any (inner s) w (by unfold maxLen; omega)
    rw [seal_is h1 h2 h] at this
    exact this
  have hj := fun w => joined_one (inner s) w 9 (by omega)
  clear hi h
  unfold inner at *
  go_enter Try.func8, Try.ntmps8
  go_wp2_with (first | (go_at_call 5; refine (hse _).mono ?_; rintro e w1 ⟨rfl, hb1⟩) | (go_at_call 17; refine (hj _).mono ?_; rintro e w2 ⟨rfl, hb2⟩; obtain ⟨c0, c1, c2, f0, f1, f2, hlt⟩ := kept3 (below_after hb1 hb2) (g := w.heap.size) (heap_alloc_new w _) (by simp)))
  exact bodyPost_ret (v := txt (s.extract 0 (s.size - 4)) 0 0) (by simp [results, Try.results8, go_sem, txt, c0, c1, c2]) rfl ⟨rfl, below3 ((Below.refl _ _).alloc (Nat.le_refl _) _) (below_after hb1 hb2) (by simp) _ _ _⟩
end Go.Proofs.Ythmofcckjakhkaa.NumR
