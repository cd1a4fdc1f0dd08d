/- Proves what impl.GetNum and impl.GetText tell of what PutNum and PutText wrote, and of it with the last byte gone. -/
import Derived.Test.YthmofcckjakhkaaDoorRoundM
import Derived.Test.YthmofcckjakhkaaDoorTextW
import Derived.Test.YthmofcckjakhkaaDoorGetL
import Derived.Test.YthmofcckjakhkaaDoorTxtI
namespace Go.Proofs.YthmofcckjakhkaaDoor.GetR
open Go.ChangeShapes Go.WideShapes Go.ChangeAt Go.RowKit Go.ChangeMaps
open NumR (leb foldI putNum putText)
set_option linter.unusedVariables false

theorem iGet_right (s : ByteArray) (a : Nat) (w : World) (hs : s.size ≤ 8000) (ha : a < s.size) {u x : Int} (ho : out s a = (u, x, 0)) :
    Calls Tryd.prog 7 #[.string s, .int .i64 (a : Int)] w fun e w' => e = .returned (num (dec u) x 0) ∧ Below w.heap.size w w' :=
  iGet_of s a (dec u) x 0 .nilIface w (fun w => num_right s a w hs ha u x ho) (fun w' _ => code_nil w')

theorem list_app (a b : ByteArray) : (a ++ b).data.toList = a.data.toList ++ b.data.toList := by simp
theorem len_list (a : ByteArray) : a.data.toList.length = a.size := by simp
theorem drop_app (a b : ByteArray) : (a ++ b).data.toList.drop a.size = b.data.toList := by
  rw [list_app, ← len_list a, List.drop_left]
theorem put_list (n : Int) : (putNum n).data.toList = leb (foldI n).toNat := rfl
theorem put_size (n : Int) : (putNum n).size = (leb (foldI n).toNat).length := by rw [← len_list, put_list]
theorem cut_list (t : ByteArray) : (t.extract 0 (t.size - 1)).data.toList = t.data.toList.dropLast := by
  have e : ∀ k, (t.extract 0 k).data.toList = t.data.toList.take k := fun k => by simp
  rw [e, List.dropLast_eq_take, len_list]
theorem ext_list (s : ByteArray) (a : Nat) : (s.extract a s.size).data.toList = s.data.toList.drop a := by
  have e : (s.extract a s.size).data.toList = (s.data.toList.drop a).take (s.size - a) := by simp
  rw [e, List.take_of_length_le (by rw [List.length_drop, len_list]; omega)]

/-- The number is got back, with the place behind it. -/
theorem get_back (A Z : ByteArray) (n : Int) (h1 : -9223372036854775808 ≤ n) (h2 : n ≤ 9223372036854775807) (hA : A.size + Z.size ≤ 100) (w : World) :
    Calls Tryd.prog 7 #[.string (A ++ putNum n ++ Z), .int .i64 (A.size : Int)] w fun e w' => e = .returned (num n (((putNum n).size : Int) + (A.size : Int)) 0) ∧ Below w.heap.size w w' := by
  have hl := put_len h1 h2
  have hp := put_size n
  have hs : (A ++ putNum n ++ Z).size = A.size + (putNum n).size + Z.size := by rw [ByteArray.size_append, ByteArray.size_append]
  have hd : (A ++ putNum n ++ Z).data.toList.drop A.size = leb (foldI n).toNat ++ Z.data.toList := by
    rw [list_app, list_app, List.append_assoc, ← len_list A, List.drop_left, put_list]
  have ho := out_put h1 h2 hd
  have h := iGet_right (A ++ putNum n ++ Z) A.size w (by omega) (by omega) ho
  rw [dec_fold] at h
  rw [show (((putNum n).size : Int) + (A.size : Int)) = ((A.size + (leb (foldI n).toNat).length : Nat) : Int) by omega]
  exact h

/-- With the last byte gone it is short. -/
theorem get_cut (n : Int) (h1 : -9223372036854775808 ≤ n) (h2 : n ≤ 9223372036854775807) (w : World) (hg : w.cell? ⟨0, 0, none⟩ = some handle) :
    Calls Tryd.prog 7 #[.string ((putNum n).extract 0 ((putNum n).size - 1)), .int .i64 0] w fun e w' => e = .returned (num 0 0 4) ∧ Below w.heap.size w w' := by
  have hl := put_len h1 h2
  have hp := put_size n
  have hs : ((putNum n).extract 0 ((putNum n).size - 1)).size = (putNum n).size - 1 := by simp
  by_cases h : (putNum n).size = 1
  · exact iGet_fault _ 0 4 w hg (fun w => num_past _ 0 w (by omega) (by omega) (by omega))
  · have ho := out_cut (s := (putNum n).extract 0 ((putNum n).size - 1)) h1 h2 (by rw [cut_list, put_list])
    have hi := iGet_in ((putNum n).extract 0 ((putNum n).size - 1)) 0 w hg (by omega) (by omega)
    rw [← num_fault ho (by decide)] at hi
    exact hi

theorem putText_app {u : ByteArray} (h : ¬ 8000 < u.size) : putText u = putNum u.size ++ u := by rw [NumR.putText_yes h, NumR.cat_two]

theorem text_back (X u : ByteArray) (hX : X.size = 1) (hu : ¬ 8000 < u.size) (hp : (putText u).size + 1 ≤ 8000) (w : World) :
    Calls Tryd.prog 11 #[.string (X ++ putText u), .int .i64 1] w fun e w' => e = .returned (txt u (((putText u).size : Int) + 1) 0) ∧ Below w.heap.size w w' := by
  have hl := put_len (n := (u.size : Int)) (by omega) (by omega)
  have hq := put_size u.size
  have e := putText_app hu
  have hps : (putText u).size = (putNum u.size).size + u.size := by rw [e, ByteArray.size_append]
  have hs : (X ++ putText u).size = 1 + (putText u).size := by rw [ByteArray.size_append, hX]
  have hd : (X ++ putText u).data.toList.drop 1 = leb (foldI u.size).toNat ++ u.data.toList := by
    rw [← hX, drop_app, e, list_app, put_list]
  have ho := out_put (by omega) (by omega) hd
  have hR : ∀ w, Calls Tryd.prog 15 #[.string (X ++ putText u), .int .i64 1] w fun e w' => e = .returned (.tuple #[.int .i64 (u.size : Int), .int .i64 ((1 + (leb (foldI u.size).toNat).length : Nat) : Int), .nilIface]) ∧ w' = w := fun w => by
    have h := num_right (X ++ putText u) 1 w (by omega) (by omega) _ _ ho
    rw [dec_fold] at h
    exact h
  have hr := fun w => rText_right (X ++ putText u) 1 u.size ((1 + (leb (foldI u.size).toNat).length : Nat) : Int) w (by omega) (by omega) (by omega) (by omega) (by omega) (by omega) hR
  have hx : (X ++ putText u).extract (((1 + (leb (foldI u.size).toNat).length : Nat) : Int)).toNat ((((1 + (leb (foldI u.size).toNat).length : Nat) : Int)) + (u.size : Int)).toNat = u := by
    apply ByteArray.ext
    apply Array.toList_inj.1
    rw [show (((1 + (leb (foldI u.size).toNat).length : Nat) : Int)).toNat = 1 + (leb (foldI u.size).toNat).length by omega, show ((((1 + (leb (foldI u.size).toNat).length : Nat) : Int)) + (u.size : Int)).toNat = (X ++ putText u).size by omega]
    rw [ext_list, ← List.drop_drop, hd, List.drop_left]
  have hi : ∀ w, Calls Tryd.prog 21 #[.string (X ++ putText u), .int .i64 1] w fun e w' => e = .returned (.tuple #[.string u, .int .i64 (((1 + (leb (foldI u.size).toNat).length : Nat) : Int) + (u.size : Int)), .nilIface]) ∧ Below w.heap.size w w' := fun w => by
    have h := hr w
    rw [hx] at h
    exact h
  rw [show (((putText u).size : Int) + 1) = ((1 + (leb (foldI u.size).toNat).length : Nat) : Int) + (u.size : Int) by omega]
  exact iText_of _ u 1 _ 0 .nilIface w hi (fun w2 _ => code_nil w2)

theorem iText_flt (s : ByteArray) (a c : Int) (w : World) (hg : w.cell? ⟨0, 0, none⟩ = some handle)
    (hR : ∀ w, Calls Tryd.prog 21 #[.string s, .int .i64 a] w fun e w' => e = .returned (.tuple #[.string ⟨#[]⟩, .int .i64 0, .iface 54 (.agg #[.int .i64 c])]) ∧ Below w.heap.size w w') :
    Calls Tryd.prog 11 #[.string s, .int .i64 a] w fun e w' => e = .returned (txt ⟨#[]⟩ 0 c) ∧ Below w.heap.size w w' :=
  iText_of s ⟨#[]⟩ a 0 c _ w hR (fun w' hb => code_hit c w' (handle_at hb hg))

theorem text_cut (u : ByteArray) (hu : ¬ 8000 < u.size) (hp : (putText u).size ≤ 8000) (w : World) (hg : w.cell? ⟨0, 0, none⟩ = some handle) :
    Calls Tryd.prog 11 #[.string ((putText u).extract 0 ((putText u).size - 1)), .int .i64 0] w fun e w' => e = .returned (txt ⟨#[]⟩ 0 4) ∧ Below w.heap.size w w' := by
  have hl := put_len (n := (u.size : Int)) (by omega) (by omega)
  have hq := put_size u.size
  have e := putText_app hu
  have hps : (putText u).size = (putNum u.size).size + u.size := by rw [e, ByteArray.size_append]
  have hs : ((putText u).extract 0 ((putText u).size - 1)).size = (putText u).size - 1 := by simp
  by_cases h0 : u.size = 0
  · have h1 : (leb (foldI u.size).toNat).length = 1 := by rw [h0]; rfl
    exact iText_flt _ 0 4 w hg (fun w => rText_fault _ 0 4 w (fun w => num_past _ 0 w (by omega) (by omega) (by omega)))
  · have hne : u.data.toList ≠ [] := by
      intro h
      have := congrArg List.length h
      rw [len_list] at this
      exact h0 this
    have hd : ((putText u).extract 0 ((putText u).size - 1)).data.toList.drop 0 = leb (foldI u.size).toNat ++ u.data.toList.dropLast := by
      rw [List.drop_zero, cut_list, e, list_app, put_list, List.dropLast_append_of_ne_nil hne]
    have ho := out_put (by omega) (by omega) hd
    have hR : ∀ w, Calls Tryd.prog 15 #[.string ((putText u).extract 0 ((putText u).size - 1)), .int .i64 0] w fun e w' => e = .returned (.tuple #[.int .i64 (u.size : Int), .int .i64 ((0 + (leb (foldI u.size).toNat).length : Nat) : Int), .nilIface]) ∧ w' = w := fun w => by
      have h := num_right ((putText u).extract 0 ((putText u).size - 1)) 0 w (by omega) (by omega) _ _ ho
      rw [dec_fold] at h
      exact h
    exact iText_flt _ 0 4 w hg (fun w => rText_short _ 0 u.size _ w (by omega) (by omega) (by omega) (by omega) (by omega) (by omega) hR)
end Go.Proofs.YthmofcckjakhkaaDoor.GetR
