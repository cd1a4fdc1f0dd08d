/- Proves what impl.joined answers: of at most 2^20 texts of together at most 2^40 bytes that lie in one row their bytes put together, in new memory alone. -/
import Derived.Test.YtlphcbgeagmopaaNumM
import Derived.Lib.BufferWrite
import Derived.Lib.SlBuf
import Derived.Deep.WholeRow
import Derived.Deep.OwnRows
namespace Go.Proofs.Ytlphcbgeagmopaa.NumR
open Go.ChangeShapes Go.WideShapes Go.ChangeAt Go.RowKit
set_option linter.unusedVariables false

def cat : List ByteArray → List UInt8
  | [] => []
  | t :: l => t.data.toList ++ cat l
theorem cat_append (a b : List ByteArray) : cat (a ++ b) = cat a ++ cat b := by
  induction a with
  | nil => rfl
  | cons t l ih => simp [cat, ih]
theorem cat_take_succ (ts : List ByteArray) (k : Nat) (h : k < ts.length) : cat (ts.take (k + 1)) = cat (ts.take k) ++ ts[k].data.toList := by
  rw [List.take_succ_eq_append_getElem h, cat_append]; simp [cat]
theorem cat_take_le (ts : List ByteArray) (k : Nat) : (cat (ts.take k)).length ≤ (cat ts).length := by
  have h := cat_append (ts.take k) (ts.drop k)
  rw [List.take_append_drop] at h
  rw [h]; simp
theorem size_list (t : ByteArray) : t.data.toList.length = t.size := by simp

def row (N : Nat) (l : List UInt8) : Array Value := (cellsOf l ++ List.replicate (N - l.length) (Value.int .u8 0)).toArray
theorem row_made (N : Nat) : madeCells #[Value.int .u8 0] N = row N [] := by
  apply Array.toList_inj.1
  rw [toList_madeCells_one]; simp [row, cellsOf]
theorem row_size {N : Nat} {l : List UInt8} (h : l.length ≤ N) : (row N l).size = N := by simp [row, cellsOf]; omega
theorem row_put {N : Nat} {l m : List UInt8} (h : l.length + m.length ≤ N) : ((row N l).toList.take l.length ++ cellsOf m ++ (row N l).toList.drop (l.length + m.length)).toArray = row N (l ++ m) := by
  unfold row
  congr 1
  have e1 : (cellsOf l ++ List.replicate (N - l.length) (Value.int .u8 0)).take l.length = cellsOf l := by
    rw [List.take_append_of_le_length (by rw [cellsOf_len]; exact Nat.le_refl _), List.take_of_length_le (by rw [cellsOf_len]; exact Nat.le_refl _)]
  have e2 : (cellsOf l ++ List.replicate (N - l.length) (Value.int .u8 0)).drop (l.length + m.length) = List.replicate (N - (l ++ m).length) (Value.int .u8 0) := by
    rw [List.drop_append, cellsOf_len, List.drop_of_length_le (by rw [cellsOf_len]; omega), List.nil_append, List.drop_replicate]
    congr 1; simp; omega
  rw [e1, e2]
  simp [cellsOf]

theorem info8' : (Try.prog.info? 5).map (fun i => (i.zero, i.size, i.bytes)) = some (some (.int .u8 0), 1, 1) := by kernel_rfl

/-- Where the rest of the row begins. -/
def offOf (N k : Nat) : Nat := if N = k then 0 else k
theorem slice_off (W : World) (g N k : Nat) (h : k ≤ N) :
    (Instr.slice 22 (.slice (some ⟨g, 0, none⟩) N N) (some (.int .i64 (k : Int))) none none).run Try.prog W = .ok (.slice (some ⟨g, offOf N k, none⟩) (N - k) (N - k)) W := by
  have ht : Try.prog.underlying 22 = some (.slice (Try.prog.elem 22)) := by kernel_rfl
  have hs : ∀ w, (sizeOf (Try.prog.elem 22)).run Try.prog w = .ok 1 w := fun _ => by kernel_rfl
  rw [run_slice_l W 22 (some ⟨g, 0, none⟩) N N ht .i64 (k : Int) (by omega) (by omega), hs]
  simp only [Result.andThen, sliced, Int.toNat_natCast]
  unfold offOf
  by_cases e : N = k
  · simp [e]
  · simp [e, Addr.add]
    intro h0; subst h0; rfl

theorem copy_row (w : World) (N : Nat) (l : List UInt8) (s : ByteArray) (h : l.length + s.size ≤ N) :
    (Builtin.copy_ #[22, 9] 3 #[.slice (some ⟨w.heap.size, offOf N l.length, none⟩) (N - l.length) (N - l.length), .string s]).run Try.prog (w.alloc (.cells (row N l) 5)) = .ok (.int .i64 (s.size : Int)) (w.alloc (.cells (row N (l ++ s.data.toList)) 5)) := by
  by_cases h0 : s.size = 0
  · have e : s.data.toList = [] := List.length_eq_zero_iff.1 (by rw [size_list]; exact h0)
    rw [Lib.run_copy_empty_string (P := Try.prog) _ 22 9 3 5 _ _ _ s Try.underlying22 (by kernel_rfl) h0, e, List.append_nil, h0]
    rfl
  · have hne : ¬ N = l.length := by omega
    have eo : offOf N l.length = l.length := if_neg hne
    rw [eo, Lib.run_copy_row_string (P := Try.prog) _ 22 9 3 5 w.heap.size l.length _ _ s (row N l) 5 Try.underlying22 (by kernel_rfl) (heap_alloc_new w _) (by omega) (by rw [row_size (by omega)]; exact h), World.setRow_alloc_new]
    have e2 := row_put (N := N) (l := l) (m := s.data.toList) (by rw [size_list]; exact h)
    rw [size_list] at e2
    rw [show Lib.byteCells s.data.toList = cellsOf s.data.toList from rfl, e2]
    rfl

theorem conv_row (w : World) (N : Nat) (l : List UInt8) (hn : l.length = N) :
    (convert 22 9 (.slice (some ⟨w.heap.size, 0, none⟩) N N)).run Try.prog (w.alloc (.cells (row N l) 5)) = .ok (.string ⟨l.toArray⟩) (w.alloc (.cells (row N l) 5)) := by
  subst hn
  refine run_convert_bytes_back (P := Try.prog) _ 22 9 5 ⟨w.heap.size, 0, none⟩ l.length l Try.underlying22 Try.underlying5 Try.underlying9 fun j hj => ?_
  rw [Addr.add_lit, Nat.zero_add]
  simp only [row, cellsOf, World.cell?_alloc_at, List.getElem?_toArray]
  rw [List.getElem?_append_left (by simpa using hj)]
  simp [hj]

set_option maxRecDepth 100000 in
set_option maxHeartbeats 1000000 in
theorem joined_cap (ts : List ByteArray) (cap a : Nat) (w : World) (ha : a < w.heap.size) (hc : ∀ j (hj : j < ts.length), w.cell? ⟨a, j, none⟩ = some (.string ts[j])) (hT : (cat ts).length ≤ 1099511627776) (hn : ts.length ≤ 1048576) :
    Calls Try.prog 54 #[.slice (some ⟨a, 0, none⟩) ts.length cap] w fun e w' => e = .returned (.string ⟨(cat ts).toArray⟩) ∧ Below w.heap.size w w' := by
  obtain ⟨N, HN⟩ : ∃ N, Hid ((cat ts).length = N) := ⟨_, rfl⟩
  have hN : N ≤ 1099511627776 := by rw [← HN.out]; exact hT
  go_enter Try.func54, Try.ntmps54
  go_wp2
  go_loop [3, 12] (fun z i => ∃ k : Nat, k ≤ ts.length ∧ i = .int .i64 k ∧ z = .int .i64 ((cat (ts.take k)).length : Int)) (fun _ i => ts.length - (intOf i).toNat)
  case atStart => exact ⟨0, Nat.zero_le _, rfl, rfl⟩
  case round =>
    obtain ⟨k, hk, rfl, rfl⟩ := hrel
    have hle := cat_take_le ts k
    by_cases hlt : k < ts.length
    · have hcx := hc k hlt
      have hle1 := cat_take_le ts (k + 1)
      have hs := congrArg List.length (cat_take_succ ts k hlt)
      rw [List.length_append, size_list] at hs
      have HS : Hid ((cat (ts.take (k + 1))).length = (cat (ts.take k)).length + ts[k].size) := hs
      have hb : (cat (ts.take k)).length + ts[k].size ≤ 1099511627776 := by omega
      clear hle1 hs hle
      go_wp2
      go_round
      case rel => exact ⟨k + 1, by omega, by go_num, val_int (by rw [HS.out]; omega)⟩
      case measure => simp [intOf]; omega
    · have hkk : (cat (ts.take k)).length = N := by rw [List.take_of_length_le (by omega)]; exact HN.out
      have hmk : ∀ w, (Instr.makeSlice 22 (.int .i64 (N : Int)) (.int .i64 (N : Int))).run Try.prog w = .ok (.slice (some ⟨w.heap.size, 0, none⟩) N N) (w.alloc (.cells (row N []) 5)) :=
        fun w => by rw [← row_made]; exact run_make_row' 22 5 (.int .u8 0) 1 Try.underlying22 info8' rfl .i64 .i64 N (by omega) (by omega) w
      clear hle hT
      go_wp2
      clear hmk
      go_loopw [7, 25] (fun z i wr => ∃ m : Nat, m ≤ ts.length ∧ i = .int .i64 m ∧ z = .int .i64 ((cat (ts.take m)).length : Int) ∧ wr = w.alloc (.cells (row N (cat (ts.take m))) 5)) (fun _ i _ => ts.length - (intOf i).toNat)
      case atStart => exact ⟨0, Nat.zero_le _, rfl, rfl, rfl⟩
      case round =>
        obtain ⟨m, hm, rfl, rfl, rfl⟩ := hrel
        have HLE : Hid ((cat (ts.take m)).length ≤ N) := HN.out ▸ cat_take_le ts m
        by_cases hlt2 : m < ts.length
        · have hcx : (w.alloc (.cells (row N (cat (ts.take m))) 5)).cell? ⟨a, m, none⟩ = some (.string ts[m]) := by rw [World.cell?_alloc_past _ _ _ ha]; exact hc m hlt2
          have HC : Hid (cat (ts.take (m + 1)) = cat (ts.take m) ++ ts[m].data.toList) := cat_take_succ ts m hlt2
          have HB : Hid ((cat (ts.take m)).length + ts[m].size ≤ N) := by
            have hle1 := cat_take_le ts (m + 1)
            have hs := congrArg List.length HC.out
            rw [List.length_append, size_list] at hs
            have := HN.out
            show _ ≤ _
            omega
          have hb : (cat (ts.take m)).length + ts[m].size ≤ 1099511627776 := by have := HB.out; omega
          have hsl := fun W => slice_off W w.heap.size N _ HLE.out
          have hcp := copy_row w N (cat (ts.take m)) ts[m] HB.out
          go_wp2
          go_roundw
          case rel => exact ⟨m + 1, by omega, by go_num, val_int (by rw [HC.out, List.length_append, size_list]; omega), by rw [HC.out]⟩
          case measure => simp [intOf]; omega
        · have hfin : cat (ts.take m) = cat ts := by rw [List.take_of_length_le (by omega)]
          have hcv := conv_row w N (cat (ts.take m)) (by rw [hfin]; exact HN.out)
          have HF : Hid (cat (ts.take m) = cat ts) := hfin
          clear hfin
          go_wp2
          go_ret
          exact ⟨ret_str (by rw [HF.out]), (Below.refl _ _).alloc (Nat.le_refl _) _⟩
theorem joined_any (ts : List ByteArray) (a : Nat) (w : World) (ha : a < w.heap.size) (hc : ∀ j (hj : j < ts.length), w.cell? ⟨a, j, none⟩ = some (.string ts[j])) (hT : (cat ts).length ≤ 1099511627776) (hn : ts.length ≤ 1048576) :
    Calls Try.prog 54 #[.slice (some ⟨a, 0, none⟩) ts.length ts.length] w fun e w' => e = .returned (.string ⟨(cat ts).toArray⟩) ∧ Below w.heap.size w w' := joined_cap ts ts.length a w ha hc hT hn
end Go.Proofs.Ytlphcbgeagmopaa.NumR
