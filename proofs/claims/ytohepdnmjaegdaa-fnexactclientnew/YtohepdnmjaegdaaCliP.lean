/- Proves the walk of the law FnExactClientNew. -/
import Derived.Test.YtohepdnmjaegdaaCliN
import Derived.Test.YtohepdnmjaegdaaCliT
namespace Go.Proofs.Ytohepdnmjaegdaa.OpR
open Go.ChangeShapes Go.WideShapes Go.ChangeAt Go.RowKit
set_option linter.unusedVariables false

theorem new_form (r : Int) : ∃ a, newC r = ⟨a, 0, [], 0, [], 0⟩ := by
  unfold newC
  split
  · exact ⟨r, rfl⟩
  · exact ⟨0, rfl⟩
theorem no_ops (w : World) : OpsAt w none [] := fun j hj => absurd hj (by simp)
set_option maxRecDepth 100000 in
set_option maxHeartbeats 1000000 in
theorem law_clientNew (r : Int) (w : World) (hr : (Lit.int .i64 r).wf = true) :
    Calls Try.prog 3 #[.int .i64 r] w fun e w' => e = .returned (.bool true) ∧ Below w.heap.size w w' := by
  have hs := sNew_any r
  have hi := iNew_any r
  obtain ⟨a, ha⟩ := new_form r
  rw [ha] at hs hi
  have heq := fun W => eqClient_same ⟨a, 0, [], 0, [], 0⟩ none none none none 0 0 0 0 W (Nat.zero_le _) (Nat.zero_le _) (no_ops W) (no_ops W) (no_ops W) (no_ops W)
  have hmk : ∀ W, Calls Try.prog 8 #[CliV.agg ⟨a, 0, [], 0, [], 0⟩ none 0 none 0, .int .i64 1] W fun e w' => e = .returned (.int .i64 1) ∧ Below W.heap.size W w' := fun W => (markClient_any ⟨a, 0, [], 0, [], 0⟩ none none 0 0 1 W (Nat.zero_le _) (Nat.zero_le _) (by omega) (by omega) ⟨.inr ⟨rfl, rfl⟩, .inr ⟨rfl, rfl⟩, fun x y e => by cases e⟩).mono fun e w' ⟨he, _, _, hm⟩ => ⟨he, hm.os, hm.tape, hm.output, hm.size, fun k hk => hm.block k hk (fun x e => by cases e) (fun x e => by cases e)⟩
  have hhd := fun W => heldClient_any ⟨a, 0, [], 0, [], 0⟩ none none 0 0 W (Nat.zero_le _) (Nat.zero_le _) (no_ops W) (no_ops W)
  unfold CliV.agg at *
  simp only [List.length_nil, Nat.mul_zero, Nat.add_zero] at hs hi heq hmk hhd
  have HS := hide hs
  have HI := hide hi
  have HEQ := hide heq
  have HMK := hide hmk
  have HHD := hide hhd
  have M1 : Hid True := ⟨trivial⟩
  have M2 : Hid True := ⟨trivial⟩
  have M3 : Hid True := ⟨trivial⟩
  clear hs hi heq hmk hhd ha
  go_enter Try.func3, Try.ntmps3
  go_wp2_with (first | (go_at_call 5; refine (HS.out _).mono ?_; rintro e w1 ⟨rfl, hb1⟩; have HV0 := hide (six_new w1 24 (.int .i64 a) (.int .i64 0) (.slice none 0 0) (.int .i64 0) (.slice none 0 0) (.int .i64 0)); have HB1 := hide (hb1.trans (((Below.refl _ _).alloc (Nat.le_refl _) (.cells #[.int .i64 a, .int .i64 0, .slice none 0 0, .int .i64 0, .slice none 0 0, .int .i64 0] 24) : Below w1.heap.size w1 _).mono hb1.size)); clear hb1) | (go_at_call 6; clear M1; (refine (HI.out _).mono ?_); (rintro e w2 ⟨rfl, hb2⟩; have HV2 := hide (HV0.out.step hb2); have HW2 := hide (HV2.out.step ((Below.refl _ _).alloc (Nat.le_refl _) (.cells #[.int .i64 a, .int .i64 0, .slice none 0 0, .int .i64 0, .slice none 0 0, .int .i64 0] 24))); have HG2 := hide (six_new w2 24 (.int .i64 a) (.int .i64 0) (.slice none 0 0) (.int .i64 0) (.slice none 0 0) (.int .i64 0)); have HB2 := hide ((HB1.out.trans (hb2.mono HB1.out.size)).trans (((Below.refl _ _).alloc (Nat.le_refl _) (.cells #[.int .i64 a, .int .i64 0, .slice none 0 0, .int .i64 0, .slice none 0 0, .int .i64 0] 24) : Below w2.heap.size w2 _).mono (HB1.out.trans (hb2.mono HB1.out.size)).size))); clear hb2; obtain ⟨p0, p1, p2, p3, p4, p5, _⟩ := HW2.out.cells; obtain ⟨q0, q1, q2, q3, q4, q5, _⟩ := HG2.out.cells) | (go_at_call 7; clear M2; refine (HEQ.out _).mono ?_; rintro e w3 ⟨rfl, hb3⟩; have HW3 := hide (HW2.out.step hb3); have HG3 := hide (HG2.out.step hb3); have HB3 := hide (HB2.out.trans (hb3.mono HB2.out.size)); clear p0 p1 p2 p3 p4 p5 q0 q1 q2 q3 q4 q5 hb3; obtain ⟨p0, p1, p2, p3, p4, p5, _⟩ := HW3.out.cells; obtain ⟨q0, q1, q2, q3, q4, q5, _⟩ := HG3.out.cells) | (go_at_call 8; refine (HMK.out _).mono ?_; rintro e w4 ⟨rfl, hb4⟩; have HW4 := hide (HW3.out.step hb4); have HG4 := hide (HG3.out.step hb4); have HB4 := hide (HB3.out.trans (hb4.mono HB3.out.size)); clear p0 p1 p2 p3 p4 p5 q0 q1 q2 q3 q4 q5 hb4; obtain ⟨p0, p1, p2, p3, p4, p5, _⟩ := HW4.out.cells; obtain ⟨q0, q1, q2, q3, q4, q5, _⟩ := HG4.out.cells) | (go_at_call 9; clear M3; refine (HHD.out _).mono ?_; rintro e w5 ⟨rfl, hb5⟩; have HW5 := hide (HW4.out.step hb5); have HG5 := hide (HG4.out.step hb5); have HB5 := hide (HB4.out.trans (hb5.mono HB4.out.size)); clear p0 p1 p2 p3 p4 p5 q0 q1 q2 q3 q4 q5 hb5; obtain ⟨p0, p1, p2, p3, p4, p5, _⟩ := HW5.out.cells; obtain ⟨q0, q1, q2, q3, q4, q5, _⟩ := HG5.out.cells) | (go_at_call 6; refine (HI.out _).mono ?_; rintro e w6 ⟨rfl, hb6⟩; have HW6 := hide (HW5.out.step hb6); have HG6 := hide (HG5.out.step hb6); have HB6 := hide (HB5.out.trans (hb6.mono HB5.out.size)); clear p0 p1 p2 p3 p4 p5 q0 q1 q2 q3 q4 q5 hb6; obtain ⟨p0, p1, p2, p3, p4, p5, _⟩ := HW6.out.cells; obtain ⟨q0, q1, q2, q3, q4, q5, _⟩ := HG6.out.cells; have HX6 := hide (six_new w6 24 (.int .i64 a) (.int .i64 0) (.slice none 0 0) (.int .i64 0) (.slice none 0 0) (.int .i64 0)); have HW7 := hide (HW6.out.step ((Below.refl _ _).alloc (Nat.le_refl _) (.cells #[.int .i64 a, .int .i64 0, .slice none 0 0, .int .i64 0, .slice none 0 0, .int .i64 0] 24))); have HG7 := hide (HG6.out.step ((Below.refl _ _).alloc (Nat.le_refl _) (.cells #[.int .i64 a, .int .i64 0, .slice none 0 0, .int .i64 0, .slice none 0 0, .int .i64 0] 24))); have HB7 := hide (HB6.out.trans (((Below.refl _ _).alloc (Nat.le_refl _) (.cells #[.int .i64 a, .int .i64 0, .slice none 0 0, .int .i64 0, .slice none 0 0, .int .i64 0] 24) : Below w6.heap.size w6 _).mono HB6.out.size)); obtain ⟨r0, r1, r2, r3, r4, r5, _⟩ := HX6.out.cells; clear p0 p1 p2 p3 p4 p5 q0 q1 q2 q3 q4 q5; obtain ⟨p0, p1, p2, p3, p4, p5, _⟩ := HW7.out.cells; obtain ⟨q0, q1, q2, q3, q4, q5, _⟩ := HG7.out.cells) | (go_at_call 7; refine (HEQ.out _).mono ?_; rintro e w8 ⟨rfl, hb8⟩; clear r0 r1 r2 r3 r4 r5; have HW8 := hide (HW7.out.step hb8); have HG8 := hide (HG7.out.step hb8); have HB8 := hide (HB7.out.trans (hb8.mono HB7.out.size)); clear p0 p1 p2 p3 p4 p5 q0 q1 q2 q3 q4 q5 hb8; obtain ⟨p0, p1, p2, p3, p4, p5, _⟩ := HW8.out.cells; obtain ⟨q0, q1, q2, q3, q4, q5, _⟩ := HG8.out.cells) | (go_at_call 9; refine (HHD.out _).mono ?_; rintro e w9 ⟨rfl, hb9⟩; have HW9 := hide (HW8.out.step hb9); have HG9 := hide (HG8.out.step hb9); have HB9 := hide (HB8.out.trans (hb9.mono HB8.out.size)); clear p0 p1 p2 p3 p4 p5 q0 q1 q2 q3 q4 q5 hb9; obtain ⟨p0, p1, p2, p3, p4, p5, _⟩ := HW9.out.cells; obtain ⟨q0, q1, q2, q3, q4, q5, _⟩ := HG9.out.cells))
  go_ret
  exact ⟨rfl, HB9.out⟩
end Go.Proofs.Ytohepdnmjaegdaa.OpR
