/- Proves that at every text and place impl.GetNum answers as spec.GetNum does, field by field (the law's walk). -/
import Derived.Test.YthmofcckjakhkacDoorGetS
import Derived.Test.YthmofcckjakhkacDoorGetN
namespace Go.Proofs.YthmofcckjakhkacDoor.GetR
open Go.ChangeShapes Go.WideShapes Go.ChangeAt Go.RowKit Go.ChangeMaps
set_option linter.unusedVariables false

theorem cells3 {w : World} {g : Nat} {v0 v1 v2 : Value} {T : TypeId} (h : w.heap[g]? = some (.cells #[v0, v1, v2] T (0, 0))) :
    w.cell? ⟨g, 0, none⟩ = some v0 ∧ w.cell? ⟨g, 1, none⟩ = some v1 ∧ w.cell? ⟨g, 2, none⟩ = some v2 ∧ w.frozen? ⟨g, 0, none⟩ = false ∧ w.frozen? ⟨g, 1, none⟩ = false ∧ w.frozen? ⟨g, 2, none⟩ = false ∧ g < w.heap.size := by
  refine ⟨by simp [World.cell?, h], by simp [World.cell?, h], by simp [World.cell?, h], by simp [World.frozen?, h], by simp [World.frozen?, h], by simp [World.frozen?, h], ?_⟩
  exact (Array.getElem?_eq_some_iff.1 h).1
theorem kept3 {W w1 : World} {B g : Nat} {v0 v1 v2 : Value} {T : TypeId} (hb : Below B W w1) (h : W.heap[g]? = some (.cells #[v0, v1, v2] T (0, 0))) (hg : g < B) :
    w1.cell? ⟨g, 0, none⟩ = some v0 ∧ w1.cell? ⟨g, 1, none⟩ = some v1 ∧ w1.cell? ⟨g, 2, none⟩ = some v2 ∧ w1.frozen? ⟨g, 0, none⟩ = false ∧ w1.frozen? ⟨g, 1, none⟩ = false ∧ w1.frozen? ⟨g, 2, none⟩ = false ∧ g < w1.heap.size :=
  cells3 ((hb.block g hg).trans h)
theorem below3 {w W w1 : World} {B : Nat} (h : Below w.heap.size w W) (hb : Below B W w1) (hB : w.heap.size ≤ B) (x y z : Value) :
    Below w.heap.size w (((w1.setCell ⟨w.heap.size, 0, none⟩ x).setCell ⟨w.heap.size, 1, none⟩ y).setCell ⟨w.heap.size, 2, none⟩ z) :=
  (((h.trans (hb.mono hB)).setCell (Nat.le_refl _) _).setCell (Nat.le_refl _) _).setCell (Nat.le_refl _) _
theorem handle_at {w W : World} {v : Value} (hb : Below w.heap.size w W) (hg : w.cell? ⟨0, 0, none⟩ = some v) : W.cell? ⟨0, 0, none⟩ = some v := by
  have hlt : 0 < w.heap.size := by
    rcases Nat.eq_zero_or_pos w.heap.size with h0 | h
    · simp [World.cell?, h0] at hg
    · exact h
  rw [hb.cell (p := ⟨0, 0, none⟩) hlt]; exact hg

/-- What readNum and bytesCode tell, GetNum tells. -/
theorem iGet_of (s : ByteArray) (a n x c : Int) (err : Value) (w : World)
    (hR : ∀ w, Calls Tryd.prog 11 #[.string s, .int .i64 a] w fun e w' => e = .returned (.tuple #[.int .i64 n, .int .i64 x, err]) ∧ w' = w)
    (hC : ∀ w', Below w.heap.size w w' → Calls Tryd.prog 12 #[err] w' fun e w2 => e = .returned (.int .i64 c) ∧ Below w'.heap.size w' w2) :
    Calls Tryd.prog 6 #[.string s, .int .i64 a] w fun e w' => e = .returned (num n x c) ∧ Below w.heap.size w w' := by
  have hC' := hC (w.alloc (.cells #[.int .i64 0, .int .i64 0, .int .i64 0] 23)) ((Below.refl _ _).alloc (Nat.le_refl _) _)
  clear hC
  go_enter Tryd.func6, Tryd.ntmps6
  go_wp2_with (first | (go_at_call 11; refine (hR _).mono ?_; rintro e w0 ⟨rfl, hw0⟩; subst hw0) | (go_at_call 12; refine hC'.mono ?_; rintro e w2 ⟨rfl, hb2⟩; obtain ⟨c0, c1, c2, f0, f1, f2, hlt⟩ := kept3 hb2 (g := w.heap.size) (heap_alloc_new w _) (by simp)))
  exact bodyPost_ret (v := num n x c) (by simp [results, Tryd.results6, go_sem, num, c0, c1, c2]) rfl ⟨rfl, below3 ((Below.refl _ _).alloc (Nat.le_refl _) _) hb2 (by simp) _ _ _⟩

theorem iGet_fault (s : ByteArray) (a c : Int) (w : World) (hg : w.cell? ⟨0, 0, none⟩ = some handle)
    (hR : ∀ w, Calls Tryd.prog 11 #[.string s, .int .i64 a] w fun e w' => e = .returned (.tuple #[.int .i64 0, .int .i64 0, .iface 41 (.agg #[.int .i64 c])]) ∧ w' = w) :
    Calls Tryd.prog 6 #[.string s, .int .i64 a] w fun e w' => e = .returned (num 0 0 c) ∧ Below w.heap.size w w' :=
  iGet_of s a 0 0 c _ w hR (fun w' hb => code_hit c w' (handle_at hb hg))
theorem iGet_in (s : ByteArray) (a : Nat) (w : World) (hg : w.cell? ⟨0, 0, none⟩ = some handle) (hs : s.size ≤ 8000) (ha : a < s.size) :
    Calls Tryd.prog 6 #[.string s, .int .i64 (a : Int)] w fun e w' => e = .returned (numOf (out s a)) ∧ Below w.heap.size w w' := by
  obtain ⟨⟨u, x, c⟩, ho⟩ : ∃ o, out s a = o := ⟨_, rfl⟩
  by_cases hc : c = 0
  · subst hc
    have e : numOf (out s a) = num (dec u) x 0 := by rw [ho]; exact if_pos rfl
    rw [e]
    exact iGet_of s a (dec u) x 0 .nilIface w (fun w => num_right s a w hs ha u x ho) (fun w' _ => code_nil w')
  · obtain ⟨rfl, rfl⟩ := out_zero s a ho hc
    rw [← num_fault ho hc]
    exact iGet_fault s a c w hg (fun w => num_wrong s a w hs ha c hc ho)

set_option maxRecDepth 100000 in
set_option maxHeartbeats 400000 in
theorem eqNum_same (n a c : Int) (w : World) :
    Calls Tryd.prog 7 #[num n a c, num n a c] w fun e w' => e = .returned (.bool true) ∧ Below w.heap.size w w' := by
  unfold num
  go_enter Tryd.func7, Tryd.ntmps7
  go_wp2
  go_ret
  exact ⟨rfl, ((Below.refl _ _).alloc (Nat.le_refl _) _).alloc (by simp) _⟩

/-- One and the same answer of both gives true. -/
theorem law_of (n x c : Int) (s : ByteArray) (a : Int) (w : World) (h1 : ¬ 1048576 < s.size)
    (hS : ∀ w, Calls Tryd.prog 5 #[.string s, .int .i64 a] w fun e w' => e = .returned (num n x c) ∧ Below w.heap.size w w')
    (hI : ∀ w', Below w.heap.size w w' → Calls Tryd.prog 6 #[.string s, .int .i64 a] w' fun e w2 => e = .returned (num n x c) ∧ Below w'.heap.size w' w2) :
    Calls Tryd.prog 3 #[.string s, .int .i64 a] w fun e w' => e = .returned (.bool true) ∧ Below w.heap.size w w' := by
  have hE := eqNum_same n x c
  unfold num at hS hI hE
  go_enter Tryd.func3, Tryd.ntmps3
  go_wp2_with (first | (go_at_call 5; refine (hS _).mono ?_; rintro e w1 ⟨rfl, hb1⟩; have hI' := hI (w1.alloc (.cells #[.int .i64 n, .int .i64 x, .int .i64 c] 23)) (hb1.alloc hb1.size _)) | (go_at_call 6; refine hI'.mono ?_; rintro e w2 ⟨rfl, hb2⟩; obtain ⟨c0, c1, c2, f0, f1, f2, hlt⟩ := kept3 hb2 (g := w1.heap.size) (heap_alloc_new w1 _) (by simp)) | (go_at_call 7; refine (hE _).mono ?_; rintro e w3 ⟨rfl, hb3⟩))
  go_ret
  have k12 : Below w1.heap.size w1 w2 := ((Below.refl _ _).alloc (Nat.le_refl _) _).trans (hb2.mono (by simp))
  have k23 : Below w2.heap.size w2 w3 := ((Below.refl _ _).alloc (Nat.le_refl _) _).trans (hb3.mono (by simp))
  exact ⟨rfl, (hb1.trans (k12.mono hb1.size)).trans (k23.mono (Nat.le_trans hb1.size k12.size))⟩

theorem num_cases (o : Int × Int × Int) : ∃ n x c, numOf o = num n x c := by
  by_cases h : o.2.2 = 0
  · exact ⟨_, _, _, if_pos h⟩
  · exact ⟨_, _, _, if_neg h⟩

set_option maxHeartbeats 400000 in
theorem law_getNum (s : ByteArray) (a : Int) (w : World) (hs : s.size ≤ maxLen) (_ha : (Lit.int .i64 a).wf = true) (hg : w.cell? ⟨0, 0, none⟩ = some handle) :
    Calls Tryd.prog 3 #[.string s, .int .i64 a] w fun e w' => e = .returned (.bool true) ∧ Below w.heap.size w w' := by
  have hs' := hs
  unfold maxLen at hs
  by_cases h1 : 1048576 < s.size
  · go_enter Tryd.func3, Tryd.ntmps3
    go_wp2
    go_ret
    exact ⟨rfl, Below.refl _ _⟩
  by_cases h2 : 8000 < s.size
  · exact law_of _ _ _ s a w h1 (fun w => sGet_size s a w hs' h2) (fun w' hb => iGet_fault s a 2 w' (handle_at hb hg) (fun w => num_size s a w hs' h2))
  by_cases h3 : a < 0
  · exact law_of _ _ _ s a w h1 (fun w => sGet_neg s a w (by omega) h3) (fun w' hb => iGet_fault s a 1 w' (handle_at hb hg) (fun w => num_neg s a w (by omega) h3))
  by_cases h4 : (s.size : Int) ≤ a
  · exact law_of _ _ _ s a w h1 (fun w => sGet_past s a w (by omega) (by omega) h4) (fun w' hb => iGet_fault s a 4 w' (handle_at hb hg) (fun w => num_past s a w (by omega) (by omega) h4))
  · obtain ⟨b, rfl⟩ : ∃ b : Nat, a = (b : Int) := ⟨a.toNat, by omega⟩
    obtain ⟨n, x, c, e⟩ := num_cases (out s b)
    refine law_of n x c s b w h1 (fun w => ?_) (fun w' hb => ?_)
    · rw [← e]; exact sGet_in s b w (by omega) (by omega)
    · rw [← e]; exact iGet_in s b w' (handle_at hb hg) (by omega) (by omega)
end Go.Proofs.YthmofcckjakhkacDoor.GetR
