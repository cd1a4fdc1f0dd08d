/- Proves what the harness' marks do to a row of what was seen. -/
import Derived.Test.YtdjjpaleemnikaaSnR
import Derived.Test.YtdjjpaleemnikaaMarkS
namespace Go.Proofs.Ytdjjpaleemnikaa.OpR
open Go.ChangeShapes Go.WideShapes Go.ChangeAt Go.RowKit
set_option linter.unusedVariables false

def mkE (k : Nat) : SeenV := ⟨(k : Int), (k : Int) + 1⟩
def marksE (k n : Nat) : List SeenV := (List.range n).map fun j => mkE (k + 2 * j)
theorem marksE_len (k n : Nat) : (marksE k n).length = n := by simp [marksE]
theorem marksE_get {k n j : Nat} (h : j < (marksE k n).length) : (marksE k n)[j] = mkE (k + 2 * j) := by simp [marksE]
set_option maxRecDepth 100000 in
set_option maxHeartbeats 400000 in
theorem markSeenS_some (b n cap k0 N : Nat) (T : TypeId) (w : World) (hn : n ≤ 1048576) (hk2 : k0 ≤ 1099511627776 / 2) (hR : RowB w b T N) (hN : n * 2 ≤ N) :
    Calls Try.prog 45 #[.slice (some ⟨b, 0, none⟩) n cap, .int .i64 (k0 : Int)] w fun e w' => e = .returned (.int .i64 ((k0 + 2 * n : Nat) : Int)) ∧ SeensAt w' (some ⟨b, 0, none⟩) (marksE k0 n) ∧ RowB w' b T N ∧ w.grownBy w' (some b) := by
  have HR := hide hR
  clear hR
  go_enter Try.func45, Try.ntmps45
  go_wp2
  go_loopw [1, 5] (fun kv i wr => ∃ j : Nat, j ≤ n ∧ i = .int .i64 j ∧ kv = .int .i64 ((k0 + 2 * j : Nat) : Int) ∧ (∀ q, q < j → SeenAt wr b (q * 2) (mkE (k0 + 2 * q))) ∧ RowB wr b T N ∧ w.grownBy wr (some b)) (fun _ i _ => n - (intOf i).toNat)
  case atStart => exact ⟨0, by omega, rfl, by go_num, fun q hq => by omega, HR.out, grown_refl _ _⟩
  case round =>
    obtain ⟨j, hj, rfl, rfl, hm, hR, hg⟩ := hrel
    have HM := hide hm
    have HR' := hide hR
    have HG := hide hg
    clear hm hR hg
    obtain ⟨K, hK⟩ : ∃ K, k0 + 2 * j = K := ⟨_, rfl⟩
    have HK := hide hK
    have hK2 : K ≤ 1099511627770 := by omega
    rw [hK]
    clear hK
    by_cases h : j < n
    · have hi0 : (0 : Int) ≤ (j : Int) := by omega
      have hi1 : (j : Int) < (n : Int) := by omega
      obtain ⟨v0, c0⟩ := HR'.out.cell (i := j * 2) (by omega)
      obtain ⟨v1, c1⟩ := HR'.out.cell (i := j * 2 + 1) (by omega)
      have f0 := HR'.out.free (j * 2)
      have f1 := HR'.out.free (j * 2 + 1)
      go_wp2
      go_roundw
      case rel =>
        have hk := HK.out
        refine ⟨j + 1, by omega, by go_num, ?_, fun q hq => ?_, (HR'.out.set _ _).set _ _, grown_trans (grown_trans HG.out (grown_set _ _ _ _)) (grown_set _ _ _ _)⟩
        · refine congrArg (Value.int .i64) ?_
          omega
        · rcases Nat.lt_or_ge q j with h' | h'
          · obtain ⟨a0, a1⟩ := HM.out q h'
            constructor
            · rw [setc_other (by omega), setc_other (by omega)]; exact a0
            · rw [setc_other (by omega), setc_other (by omega)]; exact a1
          · obtain rfl : q = j := by omega
            rw [hk]
            constructor
            · rw [setc_other (by omega)]; exact setc_same HR'.out (by omega)
            · exact setc_same (HR'.out.set _ _) (by omega)
      case measure => simp [intOf]; omega
    · obtain rfl : j = n := by omega
      go_wp2
      go_ret
      refine ⟨by rw [← HK.out]; rfl, fun q hq => ?_, HR'.out, HG.out⟩
      have hq' : q < j := by rw [marksE_len] at hq; exact hq
      refine ⟨b, 0, rfl, HR'.out.lt, ?_⟩
      rw [marksE_get, Nat.zero_add]
      exact HM.out q hq'
set_option maxRecDepth 100000 in
theorem markSeenNil (k0 cap : Nat) (w : World) :
    Calls Try.prog 45 #[.slice none 0 cap, .int .i64 (k0 : Int)] w fun e w' => e = .returned (.int .i64 (k0 : Int)) ∧ w = w' := by
  go_enter Try.func45, Try.ntmps45
  go_wp2
  go_loopw [1, 5] (fun kv i wr => i = .int .i64 0 ∧ kv = .int .i64 (k0 : Int) ∧ wr = w) (fun _ i _ => 0)
  case atStart => exact ⟨rfl, rfl, rfl⟩
  case round =>
    obtain ⟨rfl, rfl, rfl⟩ := hrel
    go_wp2
    go_ret
    exact ⟨rfl, rfl⟩
/-- A row of what was seen that may be marked. -/
def MarkE (w : World) (ao : Option Addr) (n : Nat) : Prop := (∃ g N, ao = some ⟨g, 0, none⟩ ∧ n * 2 ≤ N ∧ RowB w g 67 N) ∨ (ao = none ∧ n = 0)
theorem MarkE.below {w w' : World} {ao : Option Addr} {n : Nat} (h : MarkE w ao n) (hb : Below w.heap.size w w') : MarkE w' ao n := by
  rcases h with ⟨g, N, rfl, hN, h⟩ | h
  · exact .inl ⟨g, N, rfl, hN, h.below hb⟩
  · exact .inr h
theorem MarkE.block_ {w w' : World} {ao : Option Addr} {n : Nat} (h : MarkE w ao n) (hb : ∀ a, ao = some a → w'.heap[a.block]? = w.heap[a.block]?) : MarkE w' ao n := by
  rcases h with ⟨g, N, rfl, hN, cs, e, hn⟩ | h
  · exact .inl ⟨g, N, rfl, hN, cs, (hb _ rfl).trans e, hn⟩
  · exact .inr h
theorem MarkE.lt {w : World} {ao : Option Addr} {n : Nat} (h : MarkE w ao n) : ∀ a, ao = some a → a.block < w.heap.size := by
  rintro a rfl
  rcases h with ⟨g, N, e, _, hr⟩ | ⟨e, _⟩
  · cases e; exact hr.lt
  · cases e
theorem markE_any (ao : Option Addr) (n cap k0 : Nat) (w : World) (hn : n ≤ 1048576) (hk2 : k0 ≤ 1099511627776 / 2) (h : MarkE w ao n) :
    Calls Try.prog 45 #[.slice ao n cap, .int .i64 (k0 : Int)] w fun e w' => e = .returned (.int .i64 ((k0 + 2 * n : Nat) : Int)) ∧ SeensAt w' ao (marksE k0 n) ∧ w.grownBy w' (ao.map (·.block)) := by
  rcases h with ⟨g, N, rfl, hN, h⟩ | ⟨rfl, rfl⟩
  · refine (markSeenS_some g n cap k0 N _ w hn hk2 h hN).mono ?_
    rintro e w' ⟨he, h1, _, h3⟩
    exact ⟨he, h1, h3⟩
  · refine (markSeenNil k0 cap w).mono ?_
    rintro e w' ⟨he, rfl⟩
    exact ⟨he, fun j hj => absurd hj (by simp [marksE]), grown_refl _ _⟩
set_option maxRecDepth 100000 in
set_option maxHeartbeats 1000000 in
theorem heldSeenS_any (n k0 cap : Nat) (ao : Option Addr) (w : World) (hn : n ≤ 1048576) (hk2 : k0 ≤ 1099511627776 / 2) (hA : SeensAt w ao (marksE k0 n)) :
    Calls Try.prog 67 #[.slice ao n cap, .int .i64 (k0 : Int)] w fun e w' => e = .returned (.int .i64 ((k0 + 2 * n : Nat) : Int)) ∧ Below w.heap.size w w' := by
  have HA := hide hA
  clear hA
  go_enter Try.func67, Try.ntmps67
  go_wp2
  go_loopw [1, 5] (fun kv i wr => ∃ j : Nat, j ≤ n ∧ i = .int .i64 j ∧ kv = .int .i64 ((k0 + 2 * j : Nat) : Int) ∧ Below w.heap.size w wr) (fun _ i _ => n - (intOf i).toNat)
  case atStart => exact ⟨0, by omega, rfl, by go_num, Below.refl _ _⟩
  case round =>
    obtain ⟨j, hj, rfl, rfl, hb⟩ := hrel
    have HB := hide hb
    obtain ⟨K, hK⟩ : ∃ K, k0 + 2 * j = K := ⟨_, rfl⟩
    have HK := hide hK
    have hK2 : K ≤ 1099511627770 := by omega
    rw [hK]
    clear hK
    by_cases h : j < n
    · have hi0 : (0 : Int) ≤ (j : Int) := by omega
      have hi1 : (j : Int) < (n : Int) := by omega
      obtain ⟨b, off, rfl, hlt, hs⟩ := (HA.out.stays hb) j (by rw [marksE_len]; exact h)
      rw [marksE_get, HK.out] at hs
      obtain ⟨c0, c1⟩ := hs
      unfold mkE at c0 c1
      clear hb
      go_wp2
      go_roundw
      case rel =>
        refine ⟨j + 1, by omega, by go_num, ?_, HB.out⟩
        have := HK.out
        refine congrArg (Value.int .i64) ?_
        omega
      case measure => simp [intOf]; omega
    · obtain rfl : j = n := by omega
      go_wp2
      go_ret
      exact ⟨by rw [← HK.out]; rfl, HB.out⟩
end Go.Proofs.Ytdjjpaleemnikaa.OpR
