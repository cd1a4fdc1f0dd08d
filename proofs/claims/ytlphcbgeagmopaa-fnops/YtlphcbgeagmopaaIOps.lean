/- Proves what impl.OpsRight and impl.logRight tell. -/
import Derived.Test.YtlphcbgeagmopaaSortX
namespace Go.Proofs.Ytlphcbgeagmopaa.OpR
open Go.ChangeShapes Go.WideShapes Go.ChangeAt Go.RowKit
set_option linter.unusedVariables false

theorem each_of {l : List OpV} (h : eachR l = true) : EachR l := by
  refine Classical.byContradiction fun hn => ?_
  rw [each_no hn] at h
  cases h
theorem ops_each {l s : List OpV} (h : EachR l) (hp : s.Perm l) (ho : Orderd s) : rises s = opsRight l := by
  have hiff := opsR_iff hp ho
  by_cases hr : Rises s
  · rw [rises_yes hr, ops_yes (hiff.2 ⟨h.1, h.2, hr⟩)]
  · rw [rises_no hr, ops_no fun hh => hr (hiff.1 hh).2.2]
theorem log_each {l : List OpV} (h : EachR l) : rises l = logRight l := by
  by_cases hr : Rises l
  · rw [rises_yes hr, log_yes ⟨h.2, h.1, hr⟩]
  · rw [rises_no hr, log_no fun hh => hr hh.2.2]

set_option maxRecDepth 100000 in
set_option maxHeartbeats 400000 in
theorem iOps_any (l : List OpV) (ao : Option Addr) (cap : Nat) (w : World) (hl : l.length ≤ maxLen) (hcap : l.length ≤ cap) (hA : OpsAt w ao l) (hS : Sized l) :
    Calls Try.prog 12 #[.slice ao l.length cap] w fun e w' => e = .returned (.bool (opsRight l)) ∧ Below w.heap.size w w' := by
  have h1 := fun W (hW : Below w.heap.size w W) => each_any l ao cap W hl (hA.stays hW) hS
  cases he : eachR l
  · have HN : Hid (opsRight l = false) := ⟨ops_no fun hh => by rw [each_yes ⟨hh.1, hh.2.1⟩] at he; cases he⟩
    rw [he] at h1
    clear he hA hS
    go_enter Try.func12, Try.ntmps12
    go_wp2_with (first | (go_at_call 56; refine (h1 _ (Below.refl _ _)).mono ?_; rintro e w1 ⟨rfl, hb1⟩))
    go_ret
    exact ⟨ret_bool (by rw [HN.out]), hb1⟩
  · have hE := each_of he
    have h400 : l.length ≤ 400 := by have := hE.1; omega
    have HE : Hid (EachR l) := ⟨hE⟩
    have hs := fun W (hW : Below w.heap.size w W) => sorted_any l.length l ao cap W (Nat.le_refl _) h400 hcap (hA.stays hW)
    have hr := fun s (ao : Option Addr) (cap : Nat) W h1 h2 => iRises_any s ao cap W h1 h2
    rw [he] at h1
    unfold aheadFn at hs
    clear he hA hS hE
    go_enter Try.func12, Try.ntmps12
    go_wp2_with (first | (go_at_call 56; refine (h1 _ (Below.refl _ _)).mono ?_; rintro e w1 ⟨rfl, hb1⟩; clear h1) | (go_at_call 47; refine (hs _ hb1).mono ?_; rintro e w2 ⟨v2, s2, rfl, hp2, ho2, hw2, hb2⟩; have hB2 : Below w.heap.size w w2 := hb1.trans (hb2.mono hb1.size); obtain ⟨a2, c2, rfl, hc2, hA2⟩ := owns_at hw2; have hl2 : Hid (s2.length ≤ maxLen) := ⟨by rw [hp2.length_eq]; exact hl⟩; clear hs hw2) | (go_at_call 57; refine (hr s2 a2 c2 w2 hl2.out hA2).mono ?_; rintro e w3 ⟨rfl, hb3⟩))
    go_ret
    exact ⟨ret_bool (ops_each HE.out hp2 ho2), hB2.trans (hb3.mono hB2.size)⟩

set_option maxRecDepth 100000 in
set_option maxHeartbeats 400000 in
theorem iLog_any (l : List OpV) (ao : Option Addr) (cap : Nat) (w : World) (hl : l.length ≤ maxLen) (hA : OpsAt w ao l) (hS : Sized l) :
    Calls Try.prog 44 #[.slice ao l.length cap] w fun e w' => e = .returned (.bool (logRight l)) ∧ Below w.heap.size w w' := by
  have h1 := fun W (hW : Below w.heap.size w W) => each_any l ao cap W hl (hA.stays hW) hS
  cases he : eachR l
  · have HN : Hid (logRight l = false) := ⟨log_no fun hh => by rw [each_yes ⟨hh.2.1, hh.1⟩] at he; cases he⟩
    rw [he] at h1
    clear he hA hS
    go_enter Try.func44, Try.ntmps44
    go_wp2_with (first | (go_at_call 56; refine (h1 _ (Below.refl _ _)).mono ?_; rintro e w1 ⟨rfl, hb1⟩))
    go_ret
    exact ⟨ret_bool (by rw [HN.out]), hb1⟩
  · have HE : Hid (EachR l) := ⟨each_of he⟩
    have hr := fun W (hW : Below w.heap.size w W) => iRises_any l ao cap W hl (hA.stays hW)
    rw [he] at h1
    clear he hA hS
    go_enter Try.func44, Try.ntmps44
    go_wp2_with (first | (go_at_call 56; refine (h1 _ (Below.refl _ _)).mono ?_; rintro e w1 ⟨rfl, hb1⟩; clear h1) | (go_at_call 57; refine (hr _ hb1).mono ?_; rintro e w3 ⟨rfl, hb3⟩))
    go_ret
    exact ⟨ret_bool (log_each HE.out), hb1.trans (hb3.mono hb1.size)⟩
end Go.Proofs.Ytlphcbgeagmopaa.OpR
