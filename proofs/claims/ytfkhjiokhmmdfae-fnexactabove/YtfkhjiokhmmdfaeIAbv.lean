/- Proves what impl.Above tells. -/
import Derived.Test.YtfkhjiokhmmdfaeITree
import Derived.Test.YtfkhjiokhmmdfaeSpV
namespace Go.Proofs.Ytfkhjiokhmmdfae.OpR
open Go.ChangeShapes Go.WideShapes Go.ChangeAt Go.RowKit
set_option linter.unusedVariables false

theorem Box1.skip {w c c' : World} {g : Nat} {v : Value} {T : TypeId} {o : Obj} (h : Box1 w c g v T) (hb : Below (c.alloc o).heap.size (c.alloc o) c') : Box1 w c' g v T := (h.step ((Below.refl _ _).alloc (Nat.le_refl _) o)).step hb
theorem MapAt.skip {c c' : World} {B : Nat} {m : List (Int × NodG)} {o : Obj} (h : MapAt c B m) (hb : Below (c.alloc o).heap.size (c.alloc o) c') : MapAt c' B m := (h.stays ((Below.refl _ _).alloc (Nat.le_refl _) o)).stays hb
set_option maxRecDepth 100000 in
set_option maxHeartbeats 1000000 in
theorem iAbove_any (l : List NodG) (ao : Option Addr) (cap : Nat) (x y : Int) (w : World) (hl : l.length ≤ 1048576) (hg : Rng l) (hx : In64 x) (hA : NodesAt w ao l) (hS : ∀ n ∈ l, Sized1 1048576 n) :
    Calls Try.prog 34 #[.agg #[.slice ao l.length cap], .int .i64 x, .int .i64 y] w fun e w' => e = .returned (.bool (aboveB l x y)) ∧ Below w.heap.size w w' := by
  have htr := fun W (hW : Below w.heap.size w W) => iTree_any l ao cap W hl hg (hA.stays hW) hS
  have H1 := hide (Box1.start w (.slice ao l.length cap) 43)
  have HA := hide hA
  have HG := hide hg
  have HX := hide hx
  clear hA hS hg hx
  cases ht : treeRight l
  · have HF : Hid (aboveB l x y = false) := ⟨by simp [aboveB, ht]⟩
    simp only [ht] at htr
    go_enter Try.func34, Try.ntmps34
    go_wp2_with (first | (go_at_call 23; refine (htr _ H1.out.below).mono ?_; rintro e w1 ⟨rfl, hb1⟩))
    go_ret
    exact ⟨ret_bool (by rw [HF.out]), (H1.out.step hb1).below⟩
  · have HTR := hide ((treeR_iff l).1 ht)
    have hno := fun W (hW : Below w.heap.size w W) => nodesOf_any l ao cap W hl HTR.out.2.1 HG.out (HA.out.stays hW)
    have HNO := hide hno
    simp only [ht] at htr
    clear hno
    cases hn : nodOf l x with
    | none =>
      have HF : Hid (aboveB l x y = false) := ⟨by simp [aboveB, hn]⟩
      have HN : Hid (kvAt (kvOf l) x = none) := ⟨by rw [kvAt_of]; exact hn⟩
      clear ht hn
      go_enter Try.func34, Try.ntmps34
      go_wp2_with (first | (go_at_call 23; refine (htr _ H1.out.below).mono ?_; rintro e w1 ⟨rfl, hb1⟩; have hbx := H1.out.step hb1; have H2 := hide hbx; have hc := hbx.cell; clear hbx hb1) | (go_at_call 59; refine (HNO.out _ H2.out.below).mono ?_; rintro e w2 ⟨B, rfl, hB, hM2, hb2⟩; have hbx := H2.out.step hb2; have H3 := hide hbx; have HM := hide hM2; clear hbx hb2 hM2 hc) | (at_lookup; refine wpList_look_none _ rfl _ _ rfl B (kvOf l) rfl HM.out x HX.out rfl HN.out ?_) | go_in)
      go_ret
      exact ⟨ret_bool (by rw [HF.out]), H3.out.below.alloc H3.out.below.size _⟩
    | some n =>
      have HF : Hid (aboveB l x y = abF (kvPar (kvOf l)) y ((kvOf l).length + 1) x) := ⟨by simp [aboveB, hn, ht, kvPar_of, kvOf_len]⟩
      have HN : Hid (kvAt (kvOf l) x = some n) := ⟨by rw [kvAt_of]; exact hn⟩
      clear ht hn
      go_enter Try.func34, Try.ntmps34
      go_wp2_with (first | (go_at_call 23; refine (htr _ H1.out.below).mono ?_; rintro e w1 ⟨rfl, hb1⟩; have hbx := H1.out.step hb1; have H2 := hide hbx; have hc := hbx.cell; clear hbx hb1) | (go_at_call 59; refine (HNO.out _ H2.out.below).mono ?_; rintro e w2 ⟨B, rfl, hB, hM2, hb2⟩; have hbx := H2.out.step hb2; have H3 := hide hbx; have HM := hide hM2; clear hbx hb2 hM2 hc) | (at_lookup; refine wpList_look_some _ rfl _ _ rfl B (kvOf l) rfl HM.out x HX.out rfl n HN.out ?_) | (go_at_call 75; refine (above_any B _).mono ?_; rintro e w5 ⟨rfl, hv5, hb5⟩; have HV5 : Hid (w5.heap[w2.heap.size + 1]? = some (.cells #[.map (some B)] 87 (0, 0))) := ⟨by simpa using hv5⟩; have H4 := hide (H3.out.skip hb5); have HM5 := hide (HM.out.skip hb5); clear hv5 hb5) | (go_at_call 107; refine (aboveIn_any (kvOf l) _ B x y w5 (by rw [kvOf_len]; exact hl) (rngM_of HG.out) HX.out HV5.out HM5.out).mono ?_; rintro e w6 ⟨rfl, hb6⟩) | go_in)
      go_ret
      exact ⟨ret_bool (by rw [HF.out]), (H4.out.step hb6).below⟩
end Go.Proofs.Ytfkhjiokhmmdfae.OpR
