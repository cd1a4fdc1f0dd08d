/- Proves what impl.OpsRight and impl.logRight tell. -/
import Derived.Test.YtohepdnmjaegdaaSortX
namespace Go.Proofs.Ytohepdnmjaegdaa.OpR
open Go.ChangeShapes Go.WideShapes Go.ChangeAt Go.RowKit
set_option linter.unusedVariables false

theorem each_of {l : List OpV} (h : eachR l = true) : EachR l := by
  refine Classical.byContradiction fun hn => ?_
  rw [each_no hn] at h
  cases h
theorem ops_each {l s : List OpV} (h : EachR l) (hp : s.Perm l) (ho : Orderd s) : rises s = opsRight l := by
  have hiff := opsR_iff hp ho
  by_cases hr : Rises s
  · rw [rises_yes hr, ops_yes (hiff.2 ⟨h.1, h.2, hr⟩)]
  · rw [rises_no hr, ops_no fun hh => hr (hiff.1 hh).2.2]
theorem log_each {l : List OpV} (h : EachR l) : rises l = logRight l := by
  by_cases hr : Rises l
  · rw [rises_yes hr, log_yes ⟨h.2, h.1, hr⟩]
  · rw [rises_no hr, log_no fun hh => hr hh.2.2]

set_option maxRecDepth 100000 in
set_option maxHeartbeats 400000 in
theorem iLog_any (l : List OpV) (ao : Option Addr) (cap : Nat) (w : World) (hl : l.length ≤ maxLen) (hA : OpsAt w ao l) (hS : Sized l) :
    Calls Try.prog 38 #[.slice ao l.length cap] w fun e w' => e = .returned (.bool (logRight l)) ∧ Below w.heap.size w w' := by
  have h1 := fun W (hW : Below w.heap.size w W) => each_any l ao cap W hl (hA.stays hW) hS
  cases he : eachR l
  · have HN : Hid (logRight l = false) := ⟨log_no fun hh => by rw [each_yes ⟨hh.2.1, hh.1⟩] at he; cases he⟩
    rw [he] at h1
    clear he hA hS
    go_enter Try.func38, Try.ntmps38
    go_wp2_with (first | (go_at_call 42; refine (h1 _ (Below.refl _ _)).mono ?_; rintro e w1 ⟨rfl, hb1⟩))
    go_ret
    exact ⟨ret_bool (by rw [HN.out]), hb1⟩
  · have HE : Hid (EachR l) := ⟨each_of he⟩
    have hr := fun W (hW : Below w.heap.size w W) => iRises_any l ao cap W hl (hA.stays hW)
    rw [he] at h1
    clear he hA hS
    go_enter Try.func38, Try.ntmps38
    go_wp2_with (first | (go_at_call 42; refine (h1 _ (Below.refl _ _)).mono ?_; rintro e w1 ⟨rfl, hb1⟩; clear h1) | (go_at_call 43; refine (hr _ hb1).mono ?_; rintro e w3 ⟨rfl, hb3⟩))
    go_ret
    exact ⟨ret_bool (log_each HE.out), hb1.trans (hb3.mono hb1.size)⟩
end Go.Proofs.Ytohepdnmjaegdaa.OpR
