/- Proves what the draws of FnSeal answer: a text of at most 20000 bytes; a number and a text of at most 8 bytes; and what laws.lwAt tells. -/
import Derived.Test.YthmofcckjakhkaaSrcV
import Derived.Test.YthmofcckjakhkaaCrcW
import Derived.Deep.OwnRows
namespace Go.Proofs.Ythmofcckjakhkaa.SrcR
open Go.ChangeShapes Go.WideShapes Go.ChangeAt Go.RowKit Go.ChangeMaps
set_option linter.unusedVariables false

def edges : List Int := [0, 1, -1, 2, 1000, 1001, 2147483648, 2147483647, -2147483648, 4611686018427387904, 9223372036854775807, -9223372036854775808, 1000000, 1000001]
theorem edges_rng : ∀ x ∈ edges, -9223372036854775808 ≤ x ∧ x ≤ 9223372036854775807 := by decide
def edgeCells : Array Value := (edges.map (Value.int .i64)).toArray
theorem edge_at {v : Nat} (h : v < 14) : ∃ x : Int, edgeCells[v]? = some (.int .i64 x) ∧ -9223372036854775808 ≤ x ∧ x ≤ 9223372036854775807 := by
  have hl : v < edges.length := h
  refine ⟨edges[v], ?_, edges_rng _ (List.getElem_mem hl)⟩
  unfold edgeCells
  rw [List.getElem?_toArray, List.getElem?_map, List.getElem?_eq_getElem hl]; rfl

theorem edge_cell {w w1 : World} {g k : Nat} {y : Value} (h : (w.alloc (.cells edgeCells 2)).grownBy w1 (some g)) (hg : g < w.heap.size) (hx : edgeCells[k]? = some y) : w1.cell? ⟨w.heap.size, k, none⟩ = some y := by
  have e := h.block w.heap.size (by simp) (fun e => by have := Option.some.inj e; omega)
  rw [heap_alloc_new] at e
  simp [World.cell?, e, hx]

set_option maxRecDepth 100000 in
set_option maxHeartbeats 1000000 in
theorem edge_any (g : Nat) (w : World) (ao : Option Addr) (len cap : Nat) (hs : Src w g ao len cap) (hc : Code w ao len) (hB : ∀ a, ao = some a → a.block < w.heap.size ∧ a.block ≠ g) :
    Calls Try.prog 21 #[.pointer (some ⟨g, 0, none⟩)] w fun e w' => ∃ x : Int, e = .returned (.int .i64 x) ∧ -9223372036854775808 ≤ x ∧ x ≤ 9223372036854775807 ∧ Src w' g ao len cap ∧ w.grownBy w' (some g) := by
  have hg := hs.lt
  have hs1 : Src (w.alloc (.cells edgeCells 2)) g ao len cap := hs.block (Below.heap_alloc _ _ _ hg)
  have hgr : w.grownBy (w.alloc (.cells edgeCells 2)) (some g) := World.grownBy_alloc _ _ _
  have hn := n_any g 14 (w.alloc (.cells edgeCells 2)) (by omega) (by omega) ao len cap hs1 (hc.grown hgr hB)
  have HG : Hid (w.grownBy (w.alloc (.cells edgeCells 2)) (some g)) := hgr
  have hnew := heap_alloc_new w (.cells edgeCells 2)
  clear hs hs1 hgr hc
  have he : (#[.int .i64 0, .int .i64 1, .int .i64 (-1), .int .i64 2, .int .i64 1000, .int .i64 1001, .int .i64 2147483648, .int .i64 2147483647, .int .i64 (-2147483648), .int .i64 4611686018427387904, .int .i64 9223372036854775807, .int .i64 (-9223372036854775808), .int .i64 1000000, .int .i64 1000001] : Array Value) = edgeCells := rfl
  go_enter Try.func21, Try.ntmps21
  go_wp2_with (first | (go_at_call 15; refine hn.mono ?_; rintro e w1 ⟨v, rfl, hv0, hv1, hs1, hg1⟩; obtain ⟨x, hx, hx0, hx1⟩ := edge_at (v := v.toNat) (by omega); have hcell := edge_cell hg1 hg hx; clear hx))
  go_ret
  exact ⟨x, rfl, hx0, hx1, hs1, grown_trans HG.out hg1⟩

theorem below_own {w a b : World} (h : Below w.heap.size w a) (k : a.grownBy b (some w.heap.size)) : Below w.heap.size w b :=
  h.grown k h.size (fun j hj => by cases hj; exact Nat.le_refl _)
theorem conv_made (w : World) (n : Nat) :
    (convert 22 9 (.slice (some ⟨w.heap.size, 0, none⟩) n n)).run Try.prog (w.alloc (.cells (madeCells #[.int .u8 0] n) 5)) = .ok (.string ⟨(List.replicate n (0 : UInt8)).toArray⟩) (w.alloc (.cells (madeCells #[.int .u8 0] n) 5)) := by
  have h := run_convert_bytes_back (P := Try.prog) (w.alloc (.cells (madeCells #[.int .u8 0] n) 5)) 22 9 5 ⟨w.heap.size, 0, none⟩ n (List.replicate n (0 : UInt8)) Try.underlying22 Try.underlying5 Try.underlying9 (fun j hj => by
    rw [Addr.add_lit, Nat.zero_add]
    have hj' : j < n := by simpa using hj
    have e : (madeCells #[Value.int .u8 0] n)[j]? = some (.int .u8 0) := by
      rw [← Array.getElem?_toList, toList_madeCells_one, List.getElem?_replicate]
      simp [hj']
    simp only [World.cell?_alloc_at, e]
    simp)
  simpa using h

set_option maxRecDepth 100000 in
set_option maxHeartbeats 1000000 in
theorem drawSeal_any (w : World) (ao : Option Addr) (len cap : Nat) (hc : Code w ao len) (hB : ∀ a, ao = some a → a.block < w.heap.size) :
    Calls Try.prog 4 #[.slice ao len cap] w fun e w' => ∃ t : ByteArray, e = .returned (.string t) ∧ t.size ≤ 20000 ∧ Below w.heap.size w w' := by
  have hs := source_any w ao len cap hc hB
  have HC : Hid (Code w ao len) := hc
  have hmk : ∀ (k : Nat) (w : World), k ≤ 1000000 → (Instr.makeSlice 22 (.int .i64 (k : Int)) (.int .i64 (k : Int))).run Try.prog w = .ok (.slice (some ⟨w.heap.size, 0, none⟩) k k) (w.alloc (.cells (madeCells #[.int .u8 0] k) 5)) :=
    fun k w hk => run_make_row' 22 5 (.int .u8 0) 1 Try.underlying22 info8 rfl .i64 .i64 k (by omega) (by omega) w
  have HM : Hid (∀ (k : Nat) (w : World), k ≤ 1000000 → (Instr.makeSlice 22 (.int .i64 (k : Int)) (.int .i64 (k : Int))).run Try.prog w = .ok (.slice (some ⟨w.heap.size, 0, none⟩) k k) (w.alloc (.cells (madeCells #[.int .u8 0] k) 5))) := hmk
  clear hc hmk
  go_enter Try.func4, Try.ntmps4
  go_wp2_with (first | (go_at_call 13; refine hs.mono ?_; rintro e w1 ⟨rfl, hs1, hb1⟩; have h1 := one_any w.heap.size 30 w1 (by omega) (by omega) ao len cap hs1 (HC.out.below hb1 hB)) | (go_at_call 14; refine h1.mono ?_; rintro e w2 ⟨v, rfl, hs2, hg2⟩; have hb2 := below_own hb1 hg2))
  · refine (n_any w.heap.size 3 w2 (by omega) (by omega) ao len cap hs2 (HC.out.below hb2 hB)).mono ?_
    rintro e w3 ⟨k, rfl, hk0, hk1, hs3, hg3⟩
    have hb3 := below_own hb2 hg3
    obtain ⟨q, rfl⟩ : ∃ q : Nat, k = (q : Int) := ⟨k.toNat, by omega⟩
    have hm := HM.out (19995 + q) w3 (by omega)
    rw [show ((19995 + q : Nat) : Int) = 19995 + (q : Int) by omega] at hm
    have hcv := conv_made w3 (19995 + q)
    go_wp2
    go_ret
    exact ⟨_, rfl, by simp [ByteArray.size]; omega, hb3.alloc hb3.size _⟩
  · refine (n_any w.heap.size 20 w2 (by omega) (by omega) ao len cap hs2 (HC.out.below hb2 hB)).mono ?_
    rintro e w3 ⟨k, rfl, hk0, hk1, hs3, hg3⟩
    have hb3 := below_own hb2 hg3
    have hby := bytes_any w.heap.size k w3 hk0 (by omega) ao len cap hs3 (HC.out.below hb3 hB) (fun a ha => ⟨Nat.lt_of_lt_of_le (hB a ha) hb3.size, Nat.ne_of_lt (hB a ha)⟩)
    go_wp2_with (first | (go_at_call 16; refine hby.mono ?_; rintro e w4 ⟨l, rfl, hl, hs4, hg4⟩))
    go_ret
    exact ⟨_, rfl, by simp [ByteArray.size]; omega, below_own hb3 hg4⟩

set_option maxHeartbeats 400000 in
theorem crc_small (s : ByteArray) (w : World) (hs : s.size ≤ 8000) :
    Calls Try.prog 22 #[.string s] w fun e w' => e = .returned (.int .i64 (CrcR.crcOf 0 s)) ∧ w = w' := by
  go_enter Try.func22, Try.ntmps22
  go_wp2_with (first | (go_at_call 20; refine (CrcR.spec_any _ (by omega) (by omega) _ _ (by omega)).mono ?_; rintro e w' ⟨rfl, rfl⟩))
  go_ret
  exact ⟨rfl, rfl⟩

set_option maxRecDepth 100000 in
set_option maxHeartbeats 1000000 in
theorem drawMore_any (w : World) (ao : Option Addr) (len cap : Nat) (hc : Code w ao len) (hB : ∀ a, ao = some a → a.block < w.heap.size) :
    Calls Try.prog 9 #[.slice ao len cap] w fun e w' => ∃ (crc : Int) (u : ByteArray), e = .returned (.tuple #[.int .i64 crc, .string u]) ∧ u.size ≤ 8 ∧ Below w.heap.size w w' := by
  have hs := source_any w ao len cap hc hB
  have HC : Hid (Code w ao len) := hc
  clear hc
  have HB : Hid (∀ wx : World, Below w.heap.size w wx → ∀ a, ao = some a → a.block < wx.heap.size ∧ a.block ≠ w.heap.size) := fun wx hb a ha => ⟨Nat.lt_of_lt_of_le (hB a ha) hb.size, Nat.ne_of_lt (hB a ha)⟩
  go_enter Try.func9, Try.ntmps9
  go_wp2_with (first | (go_at_call 13; refine hs.mono ?_; rintro e w1 ⟨rfl, hs1, hb1⟩; have h1 := n_any w.heap.size 9 w1 (by omega) (by omega) ao len cap hs1 (HC.out.below hb1 hB)) | (go_at_call 15; refine h1.mono ?_; rintro e w2 ⟨k, rfl, hk0, hk1, hs2, hg2⟩; have hb2 := below_own hb1 hg2; have hby := bytes_any w.heap.size k w2 hk0 (by omega) ao len cap hs2 (HC.out.below hb2 hB) (HB.out _ hb2)) | (go_at_call 16; refine hby.mono ?_; rintro e w3 ⟨l, rfl, hl, hs3, hg3⟩; have hb3 := below_own hb2 hg3; have ho := one_any w.heap.size 5 w3 (by omega) (by omega) ao len cap hs3 (HC.out.below hb3 hB)) | (go_at_call 14; refine ho.mono ?_; rintro e w4 ⟨v, rfl, hs4, hg4⟩; have hb4 := below_own hb3 hg4))
  · have hed := edge_any w.heap.size w4 ao len cap hs4 (HC.out.below hb4 hB) (HB.out _ hb4)
    refine hed.mono ?_
    rintro e w5 ⟨x, rfl, hx0, hx1, hs5, hg5⟩
    go_wp2
    go_ret2
    exact ⟨x, _, rfl, by simp [ByteArray.size]; omega, below_own hb4 hg5⟩
  · refine (n_any w.heap.size 9 w4 (by omega) (by omega) ao len cap hs4 (HC.out.below hb4 hB)).mono ?_
    rintro e w5 ⟨k5, rfl, hk50, hk51, hs5, hg5⟩
    have hb5 := below_own hb4 hg5
    have hby2 := bytes_any w.heap.size k5 w5 hk50 (by omega) ao len cap hs5 (HC.out.below hb5 hB) (HB.out _ hb5)
    go_wp2_with (first | (go_at_call 16; refine hby2.mono ?_; rintro e w6 ⟨l6, rfl, hl6, hs6, hg6⟩) | (go_at_call 22; refine (crc_small _ _ ?hz).mono ?_; rotate_left; rintro e w7 ⟨rfl, rfl⟩))
    case hz => simp [ByteArray.size]; omega
    go_ret2
    exact ⟨_, _, rfl, by simp [ByteArray.size]; omega, below_own hb5 hg6⟩

set_option maxRecDepth 100000 in
set_option maxHeartbeats 1000000 in
theorem lwAt_any (w : World) (ao : Option Addr) (len cap : Nat) (hc : Code w ao len) (i : Nat) (hi : i ≤ 1) (most : Int) (hm : 1 < most) (hm2 : most ≤ 9223372036854775807) :
    Calls Try.prog 7 #[.slice ao len cap, .int .i64 (i : Int), .int .i64 most] w fun e w' => ∃ v : Int, e = .returned (.int .i64 v) ∧ 0 ≤ v ∧ v < most ∧ w = w' := by
  have hl := hc.1
  by_cases h0 : len = 0
  · subst h0
    clear hc
    go_enter Try.func7, Try.ntmps7
    go_wp2
    go_ret
    exact ⟨0, rfl, by omega, by omega, rfl⟩
  · obtain ⟨j, hj, hjl⟩ : ∃ j : Nat, (i : Int) % (len : Int) = (j : Int) ∧ j < len := ⟨i % len, by simp, Nat.mod_lt _ (by omega)⟩
    obtain ⟨b, off, c, rfl, hc0, hc1, hcc⟩ := hc.2 j hjl
    clear hc
    have hjl' : (j : Int) < (len : Int) := by omega
    have hj0 : (0 : Int) ≤ (j : Int) := by omega
    go_enter Try.func7, Try.ntmps7
    go_wp2
    all_goals go_ret
    · exact ⟨0, rfl, by omega, by omega, rfl⟩
    · exact ⟨_, rfl, Int.emod_nonneg _ (by omega), Int.emod_lt_of_pos _ (by omega), rfl⟩
end Go.Proofs.Ythmofcckjakhkaa.SrcR
