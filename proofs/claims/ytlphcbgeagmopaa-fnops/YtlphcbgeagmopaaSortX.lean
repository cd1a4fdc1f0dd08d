/- Proves what impl.sorted makes of ops: the same ops, in order, in new memory. -/
import Derived.Test.YtlphcbgeagmopaaSortW
namespace Go.Proofs.Ytlphcbgeagmopaa.OpR
open Go.ChangeShapes Go.WideShapes Go.ChangeAt Go.RowKit
set_option linter.unusedVariables false

/-- A row that the call owns, or nil, as a slice of ops. -/
theorem owns_at {w : World} {base : Nat} {T : TypeId} {v : Value} {l : List OpV} (h : w.ownsRow base T 7 v l.length (flat l)) : ∃ ao c, v = .slice ao l.length c ∧ l.length ≤ c ∧ OpsAt w ao l := by
  by_cases hv : v = .slice none 0 0
  · rcases h.2 with ⟨e, hn⟩ | ⟨g, cap, cur, e, _⟩
    · have hl : l = [] := List.eq_nil_of_length_eq_zero (by simpa using hn)
      subst hl
      exact ⟨none, 0, e, Nat.le_refl _, fun j hj => absurd hj (by simp)⟩
    · rw [e] at hv; simp at hv
  · obtain ⟨g, cap, e, _, _, h1, _, h2⟩ := OwnAt.at ⟨h, hv⟩
    exact ⟨_, cap, e, h1, h2⟩
theorem owns_stays {w w' : World} {base : Nat} {T : TypeId} {v : Value} {l : List OpV} (h : w.ownsRow base T 7 v l.length (flat l)) (hb : Below w.heap.size w w') : w'.ownsRow base T 7 v l.length (flat l) :=
  h.kept (row := none) ⟨hb.os, hb.tape, hb.output, hb.size, fun k hk _ => hb.block k hk⟩ (by cases hv : v.ownBlock <;> simp)
theorem ord_short {l : List OpV} (h : l.length < 2) : Orderd l := by
  match l, h with
  | [], _ => simp [Orderd]
  | [x], _ => simp [Orderd]

set_option maxRecDepth 100000 in
set_option maxHeartbeats 1000000 in
theorem sorted_any : ∀ (n : Nat) (l : List OpV) (ao : Option Addr) (cap : Nat) (w : World), l.length ≤ n → l.length ≤ 400 → l.length ≤ cap → OpsAt w ao l →
    Calls Try.prog 47 #[.slice ao l.length cap, aheadFn] w fun e w' => ∃ v s, e = .returned v ∧ s.Perm l ∧ Orderd s ∧ w'.ownsRow w.heap.size 40 7 v s.length (flat s) ∧ Below w.heap.size w w' := by
  intro n
  induction n with
  | zero =>
    intro l ao cap w hn h400 hcap hA
    have HA : Hid (OpsAt w ao l) := ⟨hA⟩
    clear hA
    unfold aheadFn
    go_enter Try.func47, Try.ntmps47
    go_wp2_with (at_builtin; refine wpList_append_ops rfl _ _ rfl w.heap.size (.slice none 0 0) [] rfl (World.ownsRow_nil w _ _ _) ao l cap rfl HA.out (by simp; omega) (Nat.le_refl _) ?_)
    intro v1 w1 hown1 hgr1 hne1
    have hB1 : Below w.heap.size w w1 := (Below.refl _ _).grown hgr1 (Nat.le_refl _) (fun j hj => by simp [Value.ownBlock] at hj)
    have HF : Hid (w1.ownsRow w.heap.size 40 7 v1 l.length (flat l)) := ⟨by simpa using hown1⟩
    clear hown1 hgr1 hne1
    go_wp2
    go_ret
    exact ⟨v1, l, rfl, List.Perm.refl _, ord_short (by omega), HF.out, hB1⟩
  | succ n ih =>
    intro l ao cap w hn h400 hcap hA
    by_cases h2 : l.length < 2
    · have HA : Hid (OpsAt w ao l) := ⟨hA⟩
      clear hA ih
      unfold aheadFn
      go_enter Try.func47, Try.ntmps47
      go_wp2_with (at_builtin; refine wpList_append_ops rfl _ _ rfl w.heap.size (.slice none 0 0) [] rfl (World.ownsRow_nil w _ _ _) ao l cap rfl HA.out (by simp; omega) (Nat.le_refl _) ?_)
      intro v1 w1 hown1 hgr1 hne1
      have hB1 : Below w.heap.size w w1 := (Below.refl _ _).grown hgr1 (Nat.le_refl _) (fun j hj => by simp [Value.ownBlock] at hj)
      have HF : Hid (w1.ownsRow w.heap.size 40 7 v1 l.length (flat l)) := ⟨by simpa using hown1⟩
      clear hown1 hgr1 hne1
      go_wp2
      go_ret
      exact ⟨v1, l, rfl, List.Perm.refl _, ord_short h2, HF.out, hB1⟩
    · obtain ⟨g, o, rfl, hlt, _⟩ := hA 0 (by omega)
      have HA : Hid (OpsAt w (some ⟨g, o, none⟩) l) := ⟨hA⟩
      clear hA
      have e1 : (l.take (l.length / 2)).length = l.length / 2 := by rw [List.length_take]; omega
      have e2 : (l.drop (l.length / 2)).length = l.length - l.length / 2 := by rw [List.length_drop]
      have ih1 := fun W (hW : Below w.heap.size w W) => ih (l.take (l.length / 2)) (some ⟨g, o, none⟩) (l.length / 2) W (by omega) (by omega) (by omega) ((HA.out.stays hW).take _)
      have ih2 := fun W (hW : Below w.heap.size w W) => ih (l.drop (l.length / 2)) (some ⟨g, fromOff o cap (l.length / 2), none⟩) (cap - l.length / 2) W (by omega) (by omega) (by omega) ((HA.out.stays hW).from _ hcap)
      simp only [e1] at ih1
      simp only [e2] at ih2
      have hsl1 := fun W => slice_cut W g o l.length cap (l.length / 2) ((l.length : Int) / 2) (by omega) (by omega)
      have hsl2 := fun W => slice_from W g o l.length cap (l.length / 2) ((l.length : Int) / 2) (by omega) (by omega)
      have hmg := fun a b ao bo ca cb W h1 h2 h3 h4 h5 h6 => merged_any a b ao bo ca cb W h1 h2 h3 h4 h5 h6
      unfold aheadFn at *
      clear ih
      have m1 : Hid True := ⟨trivial⟩
      go_enter Try.func47, Try.ntmps47
      go_wp2_with fail
      go_region_held3 (fun _ => True) (trivial) (first | (go_at_call 47; clear m1; refine (ih1 _ (Below.refl _ _).drew).mono ?_; rintro e w1 ⟨v1, s1, rfl, hp1, ho1, hw1, hb1⟩; have hB1 : Below w.heap.size w w1 := (Below.refl _ _).drew.trans (hb1.mono (by simp)); obtain ⟨a1, c1, rfl, hc1, hA1⟩ := owns_at hw1; clear ih1 hw1) | (go_at_call 47; refine (ih2 _ hB1).mono ?_; rintro e w2 ⟨v2, s2, rfl, hp2, ho2, hw2, hb2⟩; have hB2 : Below w.heap.size w w2 := hB1.trans (hb2.mono hB1.size); obtain ⟨a2, c2, rfl, hc2, hA2⟩ := owns_at hw2; have hl1 : Hid (s1.length ≤ 400) := ⟨by have h0 := hp1.length_eq; omega⟩; have hl2 : Hid (s2.length ≤ 400) := ⟨by have h0 := hp2.length_eq; omega⟩; clear ih2 hw2) | (go_at_call 46; refine (hmg s1 s2 a1 a2 c1 c2 w2 hl1.out hl2.out hc1 hc2 (hA1.stays hb2) hA2).mono ?_; rintro e w3 ⟨v3, rfl, hO3, hb3⟩))
      have hB3 : Below w.heap.size w w3 := hB2.trans (hb3.mono hB2.size)
      have HF : Hid (w3.ownsRow w.heap.size 40 7 v3 (mrg s1 s2).length (flat (mrg s1 s2))) := ⟨owns_base hO3.1 hB2.size⟩
      clear hmg hO3
      go_wp2
      go_ret
      refine ⟨v3, mrg s1 s2, rfl, ?_, mrg_ord ho1 ho2, HF.out, hB3⟩
      refine (mrg_perm s1 s2).trans ((hp1.append hp2).trans ?_)
      rw [List.take_append_drop]
end Go.Proofs.Ytlphcbgeagmopaa.OpR
