/- Proves that at every text and place impl.GetNum answers as spec.GetNum does, field by field (the law's walk). -/
import Derived.Test.YthmofcckjakhkaaDoorGetS
import Derived.Test.YthmofcckjakhkaaDoorGetN
namespace Go.Proofs.YthmofcckjakhkaaDoor.GetR
open Go.ChangeShapes Go.WideShapes Go.ChangeAt Go.RowKit Go.ChangeMaps
set_option linter.unusedVariables false

theorem cells3 {w : World} {g : Nat} {v0 v1 v2 : Value} {T : TypeId} (h : w.heap[g]? = some (.cells #[v0, v1, v2] T (0, 0))) :
    w.cell? ⟨g, 0, none⟩ = some v0 ∧ w.cell? ⟨g, 1, none⟩ = some v1 ∧ w.cell? ⟨g, 2, none⟩ = some v2 ∧ w.frozen? ⟨g, 0, none⟩ = false ∧ w.frozen? ⟨g, 1, none⟩ = false ∧ w.frozen? ⟨g, 2, none⟩ = false ∧ g < w.heap.size := by
  refine ⟨by simp [World.cell?, h], by simp [World.cell?, h], by simp [World.cell?, h], by simp [World.frozen?, h], by simp [World.frozen?, h], by simp [World.frozen?, h], ?_⟩
  exact (Array.getElem?_eq_some_iff.1 h).1
theorem kept3 {W w1 : World} {B g : Nat} {v0 v1 v2 : Value} {T : TypeId} (hb : Below B W w1) (h : W.heap[g]? = some (.cells #[v0, v1, v2] T (0, 0))) (hg : g < B) :
    w1.cell? ⟨g, 0, none⟩ = some v0 ∧ w1.cell? ⟨g, 1, none⟩ = some v1 ∧ w1.cell? ⟨g, 2, none⟩ = some v2 ∧ w1.frozen? ⟨g, 0, none⟩ = false ∧ w1.frozen? ⟨g, 1, none⟩ = false ∧ w1.frozen? ⟨g, 2, none⟩ = false ∧ g < w1.heap.size :=
  cells3 ((hb.block g hg).trans h)
theorem below3 {w W w1 : World} {B : Nat} (h : Below w.heap.size w W) (hb : Below B W w1) (hB : w.heap.size ≤ B) (x y z : Value) :
    Below w.heap.size w (((w1.setCell ⟨w.heap.size, 0, none⟩ x).setCell ⟨w.heap.size, 1, none⟩ y).setCell ⟨w.heap.size, 2, none⟩ z) :=
  (((h.trans (hb.mono hB)).setCell (Nat.le_refl _) _).setCell (Nat.le_refl _) _).setCell (Nat.le_refl _) _
theorem handle_at {w W : World} {v : Value} (hb : Below w.heap.size w W) (hg : w.cell? ⟨0, 0, none⟩ = some v) : W.cell? ⟨0, 0, none⟩ = some v := by
  have hlt : 0 < w.heap.size := by
    rcases Nat.eq_zero_or_pos w.heap.size with h0 | h
    · simp [World.cell?, h0] at hg
    · exact h
  rw [hb.cell (p := ⟨0, 0, none⟩) hlt]; exact hg

/-- What readNum and bytesCode tell, GetNum tells. -/
theorem iGet_of (s : ByteArray) (a n x c : Int) (err : Value) (w : World)
    (hR : ∀ w, Calls Tryd.prog 15 #[.string s, .int .i64 a] w fun e w' => e = .returned (.tuple #[.int .i64 n, .int .i64 x, err]) ∧ w' = w)
    (hC : ∀ w', Below w.heap.size w w' → Calls Tryd.prog 16 #[err] w' fun e w2 => e = .returned (.int .i64 c) ∧ Below w'.heap.size w' w2) :
    Calls Tryd.prog 7 #[.string s, .int .i64 a] w fun e w' => e = .returned (num n x c) ∧ Below w.heap.size w w' := by
  have hC' := hC (w.alloc (.cells #[.int .i64 0, .int .i64 0, .int .i64 0] 26)) ((Below.refl _ _).alloc (Nat.le_refl _) _)
  clear hC
  go_enter Tryd.func7, Tryd.ntmps7
  go_wp2_with (first | (go_at_call 15; refine (hR _).mono ?_; rintro e w0 ⟨rfl, hw0⟩; subst hw0) | (go_at_call 16; refine hC'.mono ?_; rintro e w2 ⟨rfl, hb2⟩; obtain ⟨c0, c1, c2, f0, f1, f2, hlt⟩ := kept3 hb2 (g := w.heap.size) (heap_alloc_new w _) (by simp)))
  exact bodyPost_ret (v := num n x c) (by simp [results, Tryd.results7, go_sem, num, c0, c1, c2]) rfl ⟨rfl, below3 ((Below.refl _ _).alloc (Nat.le_refl _) _) hb2 (by simp) _ _ _⟩

theorem iGet_fault (s : ByteArray) (a c : Int) (w : World) (hg : w.cell? ⟨0, 0, none⟩ = some handle)
    (hR : ∀ w, Calls Tryd.prog 15 #[.string s, .int .i64 a] w fun e w' => e = .returned (.tuple #[.int .i64 0, .int .i64 0, .iface 54 (.agg #[.int .i64 c])]) ∧ w' = w) :
    Calls Tryd.prog 7 #[.string s, .int .i64 a] w fun e w' => e = .returned (num 0 0 c) ∧ Below w.heap.size w w' :=
  iGet_of s a 0 0 c _ w hR (fun w' hb => code_hit c w' (handle_at hb hg))
theorem iGet_in (s : ByteArray) (a : Nat) (w : World) (hg : w.cell? ⟨0, 0, none⟩ = some handle) (hs : s.size ≤ 8000) (ha : a < s.size) :
    Calls Tryd.prog 7 #[.string s, .int .i64 (a : Int)] w fun e w' => e = .returned (numOf (out s a)) ∧ Below w.heap.size w w' := by
  obtain ⟨⟨u, x, c⟩, ho⟩ : ∃ o, out s a = o := ⟨_, rfl⟩
  by_cases hc : c = 0
  · subst hc
    have e : numOf (out s a) = num (dec u) x 0 := by rw [ho]; exact if_pos rfl
    rw [e]
    exact iGet_of s a (dec u) x 0 .nilIface w (fun w => num_right s a w hs ha u x ho) (fun w' _ => code_nil w')
  · obtain ⟨rfl, rfl⟩ := out_zero s a ho hc
    rw [← num_fault ho hc]
    exact iGet_fault s a c w hg (fun w => num_wrong s a w hs ha c hc ho)

theorem num_cases (o : Int × Int × Int) : ∃ n x c, numOf o = num n x c := by
  by_cases h : o.2.2 = 0
  · exact ⟨_, _, _, if_pos h⟩
  · exact ⟨_, _, _, if_neg h⟩

end Go.Proofs.YthmofcckjakhkaaDoor.GetR
