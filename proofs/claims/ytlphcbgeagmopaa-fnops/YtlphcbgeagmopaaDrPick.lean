/- Proves what spec's pick of three texts tells: one of them, from a source that stays one. -/
import Derived.Test.YtlphcbgeagmopaaSrcV
import Derived.Test.YtlphcbgeagmopaaOpM
namespace Go.Proofs.Ytlphcbgeagmopaa.OpR
open Go.ChangeShapes Go.WideShapes Go.ChangeAt Go.RowKit Go.ChangeMaps
open SrcR (Src)
set_option linter.unusedVariables false

theorem cell_grown {w w' : World} {g b i : Nat} (h : w.grownBy w' (some g)) (hb : b < w.heap.size) (hne : g ≠ b) : w'.cell? ⟨b, i, none⟩ = w.cell? ⟨b, i, none⟩ := by
  have e := h.block b hb (fun e => hne (by cases e; rfl))
  simp [World.cell?, e]
set_option maxRecDepth 100000 in
set_option maxHeartbeats 400000 in
theorem pick_any (g : Nat) (w : World) (b : Nat) (t0 t1 t2 : ByteArray) (c : Nat) (ao : Option Addr) (len cap : Nat) (hs : Src w g ao len cap) (hc : SrcR.Code w ao len) (hg : g ≠ b) (hb : b < w.heap.size) (h0 : w.cell? ⟨b, 0, none⟩ = some (.string t0)) (h1 : w.cell? ⟨b, 1, none⟩ = some (.string t1)) (h2 : w.cell? ⟨b, 2, none⟩ = some (.string t2)) :
    Calls Try.prog 113 #[.pointer (some ⟨g, 0, none⟩), .slice (some ⟨b, 0, none⟩) 3 c] w fun e w' => ∃ t, e = .returned (.string t) ∧ (t = t0 ∨ t = t1 ∨ t = t2) ∧ Src w' g ao len cap ∧ w.grownBy w' (some g) := by
  have hn := SrcR.n_any g 3 w (by omega) (by omega) ao len cap hs hc
  have H0 : Hid (∀ v : Int, 0 ≤ v → v < 3 → ∃ t, w.cell? ⟨b, v.toNat, none⟩ = some (.string t) ∧ (t = t0 ∨ t = t1 ∨ t = t2)) := ⟨fun v h3 h4 => by
    rcases (show v = 0 ∨ v = 1 ∨ v = 2 by omega) with rfl | rfl | rfl
    · exact ⟨t0, h0, .inl rfl⟩
    · exact ⟨t1, h1, .inr (.inl rfl)⟩
    · exact ⟨t2, h2, .inr (.inr rfl)⟩⟩
  clear hs hc h0 h1 h2
  go_enter Try.func113, Try.ntmps113
  go_wp2_with (first | (go_at_call 61; refine hn.mono ?_; rintro e w1 ⟨v, rfl, hv0, hv1, hs1, hg1⟩; obtain ⟨t, hc1, ht⟩ := H0.out v hv0 hv1; have hcell : w1.cell? ⟨b, v.toNat, none⟩ = some (.string t) := (cell_grown hg1 hb hg).trans hc1; have Ht := Hid.mk ht; have Hs1 := Hid.mk hs1; clear hc1 ht hs1 hn))
  go_ret
  exact ⟨t, rfl, Ht.out, Hs1.out, hg1⟩
end Go.Proofs.Ytlphcbgeagmopaa.OpR
