/- Proves what the harness' marks of a whole tree do, and what its look at them tells. -/
import Derived.Test.YtcpgkalafkhlgafMkT
import Derived.Test.YtcpgkalafkhlgafSpU
namespace Go.Proofs.Ytcpgkalafkhlgaf.OpR
open Go.ChangeShapes Go.WideShapes Go.ChangeAt Go.RowKit
set_option linter.unusedVariables false

set_option maxRecDepth 100000 in
theorem markNodeS_none (k0 : Nat) (w : World) (hk2 : k0 ≤ 1048576) :
    Calls Try.prog 30 #[.slice none 0 0, .int .i64 (k0 : Int)] w fun e w' => e = .returned (.int .i64 (k0 : Int)) ∧ w = w' := by
  go_enter Try.func30, Try.ntmps30
  go_wp2
  go_loopw [1, 5] (fun kv i wr => i = .int .i64 0 ∧ kv = .int .i64 (k0 : Int) ∧ wr = w) (fun _ i _ => 0)
  case atStart => exact ⟨rfl, rfl, rfl⟩
  case round =>
    obtain ⟨rfl, rfl, rfl⟩ := hrel
    go_wp2
    go_ret
    exact ⟨rfl, rfl⟩
theorem markNodeS_any (l : List NodG) (ao : Option Addr) (cap base top k0 : Nat) (w : World) (hl : l.length ≤ 1048576) (hp : ∀ n ∈ l, n.props.length ≤ 1048576) (hk : 0 < k0) (hk2 : k0 ≤ 1048576) (hO : TreeOwn w base (.slice ao l.length cap) l) (hU : Under top (.slice ao l.length cap) l) :
    Calls Try.prog 30 #[.slice ao l.length cap, .int .i64 (k0 : Int)] w fun e w' => e = .returned (.int .i64 (endN k0 l : Int)) ∧ TreeOwn w' base (.slice ao l.length cap) (markN k0 l) ∧ Twixt base top w w' := by
  rcases hO.row.2 with ⟨e, hn⟩ | ⟨g, cap', cur, e, hb, hg, h1, h2, h3, h4⟩
  · obtain rfl : l = [] := List.eq_nil_of_length_eq_zero hn
    simp only [Value.slice.injEq] at e
    obtain ⟨rfl, _, rfl⟩ := e
    refine (markNodeS_none k0 w hk2).mono ?_
    rintro e w' ⟨rfl, rfl⟩
    exact ⟨rfl, hO, Twixt.refl _ _ _⟩
  · simp only [Value.slice.injEq] at e
    obtain ⟨rfl, _, rfl⟩ := e
    exact markNodeS_some l g cap base top k0 w hl hp hk hk2 hO hU
set_option maxRecDepth 100000 in
set_option maxHeartbeats 1000000 in
theorem markTree_any (l : List NodG) (ao : Option Addr) (cap base top k0 : Nat) (w : World) (hl : l.length ≤ 1048576) (hp : ∀ n ∈ l, n.props.length ≤ 1048576) (hk : 0 < k0) (hk2 : k0 ≤ 1048576) (hO : TreeOwn w base (.slice ao l.length cap) l) (hU : Under top (.slice ao l.length cap) l) :
    Calls Try.prog 13 #[.agg #[.slice ao l.length cap], .int .i64 (k0 : Int)] w fun e w' => e = .returned (.int .i64 (endN k0 l : Int)) ∧ TreeOwn w' base (.slice ao l.length cap) (markN k0 l) ∧ Twixt base top w w' := by
  have hmk := fun W (hW : Below w.heap.size w W) => markNodeS_any l ao cap base top k0 W hl hp hk hk2 (hO.stays hW) hU
  have HMK := hide hmk
  have H1 := hide (Box1.start w (.slice ao l.length cap) 30)
  have hE : endN k0 l ≤ 2200000000000 := by have := endN_le k0 l hp; omega
  clear hmk hO hU hp
  go_enter Try.func13, Try.ntmps13
  go_wp2_with (first | (go_at_call 30; refine (HMK.out _ H1.out.below).mono ?_; rintro e w1 ⟨rfl, ht1, hg1⟩; have HT := hide ht1; have HG := hide hg1; clear ht1 hg1))
  go_ret
  exact ⟨rfl, HT.out, (Twixt.of H1.out.below).trans HG.out⟩

end Go.Proofs.Ytcpgkalafkhlgaf.OpR
