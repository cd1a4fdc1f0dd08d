/- Proves what impl's hand does when it is told how many have come. -/
import Derived.Test.YtfkgmkcndchkjaaGreatDoorCliH
import Derived.Test.YtfkgmkcndchkjaaGreatDoorCliK
import Derived.Test.YtfkgmkcndchkjaaGreatDoorIsE
import Derived.Test.YtfkgmkcndchkjaaGreatDoorCliQ
import Derived.Test.YtfkgmkcndchkjaaGreatDoorCameC
namespace Go.Proofs.YtfkgmkcndchkjaaGreatDoor.OpR
open Go.ChangeShapes Go.WideShapes Go.ChangeAt Go.RowKit
set_option linter.unusedVariables false

theorem drewN_b {B : Nat} {a b : World} (h : Below B a b) (n : Nat) : Below B a (b.drewN n) := ⟨h.os, h.tape, h.output, h.size, h.block⟩
/-- A hand behind a pointer. -/
def HandAt (W : World) (g : Nat) (x : CliV) (la : Option Addr) (lc : Nat) (oa : Option Addr) (oc : Nat) : Prop := W.heap[g]? = some (.cells #[.slice la x.log.length lc, .int .i64 x.repl, .int .i64 x.clock, .int .i64 x.acked, .slice oa x.out.length oc, .int .i64 x.got] 77 (0, 0))
theorem HandAt.lt {W : World} {g : Nat} {x : CliV} {la : Option Addr} {lc : Nat} {oa : Option Addr} {oc : Nat} (h : HandAt W g x la lc oa oc) : g < W.heap.size := (Array.getElem?_eq_some_iff.1 h).1
theorem HandAt.step {W W' : World} {g : Nat} {x : CliV} {la : Option Addr} {lc : Nat} {oa : Option Addr} {oc : Nat} (h : HandAt W g x la lc oa oc) (hb : Below W.heap.size W W') : HandAt W' g x la lc oa oc := (hb.block g h.lt).trans h
theorem HandAt.cells {W : World} {g : Nat} {x : CliV} {la : Option Addr} {lc : Nat} {oa : Option Addr} {oc : Nat} (h : HandAt W g x la lc oa oc) :
    W.cell? ⟨g, 0, none⟩ = some (.slice la x.log.length lc) ∧ W.cell? ⟨g, 1, none⟩ = some (.int .i64 x.repl) ∧ W.cell? ⟨g, 2, none⟩ = some (.int .i64 x.clock) ∧ W.cell? ⟨g, 3, none⟩ = some (.int .i64 x.acked) ∧ W.cell? ⟨g, 4, none⟩ = some (.slice oa x.out.length oc) ∧ W.cell? ⟨g, 5, none⟩ = some (.int .i64 x.got) ∧ ∀ i, W.frozen? ⟨g, i, none⟩ = false := by
  unfold HandAt at h
  refine ⟨?_, ?_, ?_, ?_, ?_, ?_, fun i => by simp [World.frozen?, h]⟩ <;> simp [World.cell?, h]
set_option maxRecDepth 100000 in
set_option maxHeartbeats 1000000 in
theorem ack_ill (c : CliV) (la oa : Option Addr) (lc oc : Nat) (many : Int) (g : Nat) (w : World) {f : Nat → Addr} (hS : Sents w f) (hz : CSz maxLen c) (hm : Num64 many) (hH : HandAt w g c la lc oa oc) (hA : OpsAt w la c.log) (hC : OpsAt w oa c.out) (hcr : cliRight c = false) :
    Calls Tryz.prog 176 #[.pointer (some ⟨g, 0, none⟩), .int .i64 many] w fun e w' => e = .returned (errV f (gOf 1)) ∧ Below w.heap.size w w' := by
  have hr := fun W (hW : Below w.heap.size w W) => iRight_any c la oa lc oc W hz (hA.stays hW) (hC.stays hW)
  have hv := fun W (hW : Below w.heap.size w W) => (hS.step hW).var 1 (by omega)
  have HV := hide hv
  obtain ⟨p0, p1, p2, p3, p4, p5, fr⟩ := hH.cells
  rw [hcr] at hr
  have HR := hide hr
  rw [show gOf 1 = 1 from rfl]
  unfold CliV.hand errV at *
  clear hr hv hS hA hC hz hcr
  go_enter Tryz.func176, Tryz.ntmps176
  go_wp2_with (first | (go_at_call 75; (refine (HR.out _ (Below.refl _ _)).mono ?_); rintro e w1 ⟨rfl, hb1⟩; have q1 := HV.out _ hb1))
  go_ret
  exact ⟨rfl, hb1⟩
set_option maxRecDepth 100000 in
set_option maxHeartbeats 1000000 in
theorem ack_place (c : CliV) (la oa : Option Addr) (lc oc : Nat) (many : Int) (g : Nat) (w : World) {f : Nat → Addr} (hS : Sents w f) (hz : CSz maxLen c) (hm : Num64 many) (hH : HandAt w g c la lc oa oc) (hA : OpsAt w la c.log) (hC : OpsAt w oa c.out) (hcr : cliRight c = true) (hmm : many < c.acked ∨ c.acked + (c.out.length : Int) < many) :
    Calls Tryz.prog 176 #[.pointer (some ⟨g, 0, none⟩), .int .i64 many] w fun e w' => e = .returned (errV f (gOf 8)) ∧ Below w.heap.size w w' := by
  have hr := fun W (hW : Below w.heap.size w W) => iRight_any c la oa lc oc W hz (hA.stays hW) (hC.stays hW)
  have hv := fun W (hW : Below w.heap.size w W) => (hS.step hW).var 6 (by omega)
  have HV := hide hv
  have HH := hide hH
  obtain ⟨p0, p1, p2, p3, p4, p5, fr⟩ := hH.cells
  have hR := (cliR_iff c).1 hcr
  have hlow := hR.low
  have hack : c.acked ≤ 150 := by have := hR.acked; have := own_len c.log c.repl; have := hR.log.2.1; omega
  have hfew := hR.few
  unfold Num64 at hm
  rw [hcr] at hr
  have HR := hide hr
  rw [show gOf 8 = 6 from rfl]
  unfold CliV.hand errV at *
  clear hr hv hS hA hC hz hcr hR hH
  by_cases hm1 : many < c.acked
  · clear hmm
    have b1 : decide (many < c.acked) = true := by simpa using hm1
    have HM1 := hide hm1
    clear hm1
    go_enter Tryz.func176, Tryz.ntmps176
    go_wp2_with (first | (go_at_call 75; (refine (HR.out _ (Below.refl _ _)).mono ?_); rintro e w1 ⟨rfl, hb1⟩; have q1 := HV.out _ hb1; have HB1 := hide hb1; clear p0 p1 p2 p3 p4 p5 fr hb1; obtain ⟨p0, p1, p2, p3, p4, p5, fr⟩ := (HH.out.step HB1.out).cells))
    go_quiet (fail)
    go_wp2
    go_ret
    exact ⟨rfl, drewN_b HB1.out nq⟩
  · have hm2 : c.acked + (c.out.length : Int) < many := by omega
    have hwm : wrap64 (many - c.acked) = many - c.acked := by unfold wrap64; omega
    have b1 : decide (many < c.acked) = false := by simpa using (show c.acked ≤ many by omega)
    have b2 : decide ((c.out.length : Int) < many - c.acked) = true := by simpa using (show (c.out.length : Int) < many - c.acked by omega)
    have HM1 := hide (And.intro hm1 hm2)
    clear hmm hm1 hm2
    go_enter Tryz.func176, Tryz.ntmps176
    go_wp2_with (first | (go_at_call 75; (refine (HR.out _ (Below.refl _ _)).mono ?_); rintro e w1 ⟨rfl, hb1⟩; have q1 := HV.out _ hb1; have HB1 := hide hb1; clear p0 p1 p2 p3 p4 p5 fr hb1; obtain ⟨p0, p1, p2, p3, p4, p5, fr⟩ := (HH.out.step HB1.out).cells))
    go_quiet (fail)
    go_wp2
    go_ret
    exact ⟨rfl, drewN_b HB1.out nq⟩
set_option maxRecDepth 100000 in
set_option maxHeartbeats 1000000 in
theorem ack_ok (c : CliV) (la : Option Addr) (lc ob oo oc : Nat) (many : Int) (g : Nat) (w : World) (hz : CSz maxLen c) (hm : Num64 many) (hoc : c.out.length ≤ oc) (hH : HandAt w g c la lc (some ⟨ob, oo, none⟩) oc) (hA : OpsAt w la c.log) (hC : OpsAt w (some ⟨ob, oo, none⟩) c.out) (hcr : cliRight c = true) (k : Nat) (hk : many - c.acked = (k : Int)) (hkl : k ≤ c.out.length) :
    Calls Tryz.prog 176 #[.pointer (some ⟨g, 0, none⟩), .int .i64 many] w fun e w' => e = .returned .nilIface ∧ HandAt w' g ⟨c.repl, c.clock, c.log, many, c.out.drop k, c.got⟩ la lc (some ⟨ob, fromOff oo oc k, none⟩) (oc - k) ∧ w.grownBy w' (some g) := by
  have hr := fun W (hW : Below w.heap.size w W) => iRight_any c la (some ⟨ob, oo, none⟩) lc oc W hz (hA.stays hW) (hC.stays hW)
  have HH := hide hH
  obtain ⟨p0, p1, p2, p3, p4, p5, fr⟩ := hH.cells
  have hR := (cliR_iff c).1 hcr
  have hlow := hR.low
  have hfew := hR.few
  unfold Num64 at hm
  rw [hcr] at hr
  have HR := hide hr
  have b1 : decide (many < c.acked) = false := by simpa using (show c.acked ≤ many by omega)
  have b2 : decide ((c.out.length : Int) < many - c.acked) = false := by simpa using (show many - c.acked ≤ (c.out.length : Int) by omega)
  have hwm : wrap64 (many - c.acked) = many - c.acked := by unfold wrap64; omega
  have hsl := fun W => slice_from W ob oo c.out.length oc k (many - c.acked) hk hkl
  unfold CliV.hand at *
  clear hr hA hC hz hcr hR hH hk
  go_enter Tryz.func176, Tryz.ntmps176
  go_wp2_with (first | (go_at_call 75; (refine (HR.out _ (Below.refl _ _)).mono ?_); rintro e w1 ⟨rfl, hb1⟩; have HB1 := hide hb1; have hH1 := HH.out.step hb1; have HH1 := hide hH1; clear p0 p1 p2 p3 p4 p5 fr hb1; obtain ⟨p0, p1, p2, p3, p4, p5, fr⟩ := hH1.cells; clear hH1))
  go_quiet (fail)
  go_wp2
  go_region
  go_wp2
  go_ret
  refine ⟨rfl, ?_, ?_⟩
  · have h := set_block (set_block (HH1.out.step (drewN_b (Below.refl _ _) (nq + 1))) 4 (.slice (some ⟨ob, fromOff oo oc k, none⟩) (c.out.length - k) (oc - k))) 3 (.int .i64 many)
    unfold HandAt
    rw [List.length_drop]
    exact h
  · have hb := drewN_b HB1.out (nq + 1)
    exact ⟨by simpa [World.setCell] using hb.os, by simpa [World.setCell] using hb.tape, by simpa [World.setCell] using hb.output, by simpa using hb.size, fun j hj hne => by
      rw [Below.heap_setCell _ _ _ _ (fun e => hne (by rw [e])), Below.heap_setCell _ _ _ _ (fun e => hne (by rw [e]))]
      exact hb.block j hj⟩
end Go.Proofs.YtfkgmkcndchkjaaGreatDoor.OpR
