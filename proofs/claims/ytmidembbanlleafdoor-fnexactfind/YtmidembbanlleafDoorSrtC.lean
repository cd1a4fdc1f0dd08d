/- Proves what impl.sorted makes of nodes by the order of Children: the same nodes, in order, in new memory. -/
import Derived.Test.YtmidembbanlleafDoorMrgC
import Derived.Test.YtmidembbanlleafDoorTrS
namespace Go.Proofs.YtmidembbanlleafDoor.OpR
open Go.ChangeShapes Go.WideShapes Go.ChangeAt Go.RowKit
set_option linter.unusedVariables false

theorem ltC_iff (a b : NodG) : ltC a b = true ↔ keyLt a.name b.name = true ∨ (a.name = b.name ∧ a.id < b.id) := by simp [ltC]
theorem ltC_trans {a b c : NodG} (h1 : ltC a b = true) (h2 : ltC b c = true) : ltC a c = true := by
  rw [ltC_iff] at *
  rcases h1 with h1 | ⟨e1, i1⟩ <;> rcases h2 with h2 | ⟨e2, i2⟩
  · exact .inl (kl_trans h1 h2)
  · exact .inl (by rw [← e2]; exact h1)
  · exact .inl (by rw [e1]; exact h2)
  · exact .inr ⟨e1.trans e2, by omega⟩
theorem leC_false {a b : NodG} (h : leC a b = true) : ltC b a = false := by simpa [leC] using h
theorem leC_cases (a b : NodG) : leC a b = true ↔ ltC a b = true ∨ (a.name = b.name ∧ a.id = b.id) := by
  unfold leC
  rw [Bool.not_eq_true']
  constructor
  · intro h
    cases e : ltC a b with
    | true => exact .inl rfl
    | false =>
      right
      have hab : keyLt a.name b.name = false := by
        cases k : keyLt a.name b.name with
        | false => rfl
        | true => rw [(ltC_iff a b).2 (.inl k)] at e; cases e
      have hba : keyLt b.name a.name = false := by
        cases k : keyLt b.name a.name with
        | false => rfl
        | true => rw [(ltC_iff b a).2 (.inl k)] at h; cases h
      have hn := kl_tri hab hba
      refine ⟨hn, ?_⟩
      have h1 : ¬ a.id < b.id := fun k => by rw [(ltC_iff a b).2 (.inr ⟨hn, k⟩)] at e; cases e
      have h2 : ¬ b.id < a.id := fun k => by rw [(ltC_iff b a).2 (.inr ⟨hn.symm, k⟩)] at h; cases h
      omega
  · rintro (h | ⟨h1, h2⟩)
    · cases e : ltC b a with
      | false => rfl
      | true =>
        have := ltC_trans h e
        rw [ltC_iff] at this
        rcases this with k | ⟨_, k⟩
        · rw [kl_irrefl] at k; cases k
        · omega
    · cases e : ltC b a with
      | false => rfl
      | true =>
        rw [ltC_iff] at e
        rcases e with k | ⟨_, k⟩
        · rw [h1, kl_irrefl] at k; cases k
        · omega
theorem leC_trans {a b c : NodG} (h1 : leC a b = true) (h2 : leC b c = true) : leC a c = true := by
  rw [leC_cases] at *
  rcases h1 with h1 | ⟨e1, i1⟩ <;> rcases h2 with h2 | ⟨e2, i2⟩
  · exact .inl (ltC_trans h1 h2)
  · left
    rw [ltC_iff] at h1 ⊢
    rw [← e2, ← i2]; exact h1
  · left
    rw [ltC_iff] at h2 ⊢
    rw [e1, i1]; exact h2
  · exact .inr ⟨e1.trans e2, i1.trans i2⟩
theorem leC_total (a b : NodG) : (leC a b || leC b a) = true := by
  cases e : leC a b with
  | true => rfl
  | false =>
    have : ltC b a = true := by simpa [leC] using e
    rw [(leC_cases b a).2 (.inl this)]; rfl
def OrdC (l : List NodG) : Prop := l.Pairwise (fun a b => leC a b = true)
theorem mrgC_ord {a b : List NodG} (ha : OrdC a) (hb : OrdC b) : OrdC (mrgC a b) :=
  List.pairwise_merge (le := leC) (fun a b c (h1 : leC a b = true) (h2 : leC b c = true) => leC_trans h1 h2) leC_total a b ha hb
theorem ordC_short {l : List NodG} (h : l.length < 2) : OrdC l := by
  match l, h with
  | [], _ => simp [OrdC]
  | [x], _ => simp [OrdC]

set_option maxRecDepth 100000 in
set_option maxHeartbeats 1000000 in
theorem sortedC_any : ∀ (n : Nat) (l : List NodG) (ao : Option Addr) (cap : Nat) (w : World), l.length ≤ n → l.length ≤ 400 → l.length ≤ cap → NCells w ao l →
    Calls Tryd.prog 56 #[.slice ao l.length cap, aheadFnC] w fun e w' => ∃ v s, e = .returned v ∧ s.Perm l ∧ OrdC s ∧ w'.ownsRow w.heap.size 53 4 v s.length (flatG NodG.cells s) ∧ Below w.heap.size w w' := by
  intro n
  induction n with
  | zero =>
    intro l ao cap w hn h400 hcap hA
    have HA : Hid (NCells w ao l) := ⟨hA⟩
    clear hA
    unfold aheadFnC
    go_enter Tryd.func56, Tryd.ntmps56
    go_wp2_with (at_builtin; refine wpList_append_N rfl _ _ rfl w.heap.size (.slice none 0 0) [] rfl (World.ownsRow_nil w _ _ _) ao l cap rfl HA.out (by simp; omega) (Nat.le_refl _) ?_)
    intro v1 w1 hown1 hgr1 hne1
    have hB1 : Below w.heap.size w w1 := (Below.refl _ _).grown hgr1 (Nat.le_refl _) (fun j hj => by simp [Value.ownBlock] at hj)
    have HF : Hid (w1.ownsRow w.heap.size 53 4 v1 l.length (flatG NodG.cells l)) := ⟨by simpa using hown1⟩
    clear hown1 hgr1 hne1
    go_wp2
    go_ret
    exact ⟨v1, l, rfl, List.Perm.refl _, ordC_short (by omega), HF.out, hB1⟩
  | succ n ih =>
    intro l ao cap w hn h400 hcap hA
    by_cases h2 : l.length < 2
    · have HA : Hid (NCells w ao l) := ⟨hA⟩
      clear hA ih
      unfold aheadFnC
      go_enter Tryd.func56, Tryd.ntmps56
      go_wp2_with (at_builtin; refine wpList_append_N rfl _ _ rfl w.heap.size (.slice none 0 0) [] rfl (World.ownsRow_nil w _ _ _) ao l cap rfl HA.out (by simp; omega) (Nat.le_refl _) ?_)
      intro v1 w1 hown1 hgr1 hne1
      have hB1 : Below w.heap.size w w1 := (Below.refl _ _).grown hgr1 (Nat.le_refl _) (fun j hj => by simp [Value.ownBlock] at hj)
      have HF : Hid (w1.ownsRow w.heap.size 53 4 v1 l.length (flatG NodG.cells l)) := ⟨by simpa using hown1⟩
      clear hown1 hgr1 hne1
      go_wp2
      go_ret
      exact ⟨v1, l, rfl, List.Perm.refl _, ordC_short h2, HF.out, hB1⟩
    · obtain ⟨g, o, rfl, hlt, _⟩ := hA 0 (by omega)
      have HA : Hid (NCells w (some ⟨g, o, none⟩) l) := ⟨hA⟩
      clear hA
      have e1 : (l.take (l.length / 2)).length = l.length / 2 := by rw [List.length_take]; omega
      have e2 : (l.drop (l.length / 2)).length = l.length - l.length / 2 := by rw [List.length_drop]
      have ih1 := fun W (hW : Below w.heap.size w W) => ih (l.take (l.length / 2)) (some ⟨g, o, none⟩) (l.length / 2) W (by omega) (by omega) (by omega) ((HA.out.stays hW).take _)
      have ih2 := fun W (hW : Below w.heap.size w W) => ih (l.drop (l.length / 2)) (some ⟨g, fromN o cap (l.length / 2), none⟩) (cap - l.length / 2) W (by omega) (by omega) (by omega) ((HA.out.stays hW).from _ hcap)
      simp only [e1] at ih1
      simp only [e2] at ih2
      have hsl1 := fun W => slice_cutN W g o l.length cap (l.length / 2) ((l.length : Int) / 2) (by omega) (by omega)
      have hsl2 := fun W => slice_fromN W g o l.length cap (l.length / 2) ((l.length : Int) / 2) (by omega) (by omega)
      have hmg := fun a b ao bo ca cb W h1 h2 h3 h4 h5 h6 => mergedC_any a b ao bo ca cb W h1 h2 h3 h4 h5 h6
      unfold aheadFnC at *
      clear ih
      have m1 : Hid True := ⟨trivial⟩
      go_enter Tryd.func56, Tryd.ntmps56
      go_wp2_with fail
      go_region_held3 (fun _ => True) (trivial) (first | (go_at_call 56; clear m1; refine (ih1 _ (Below.refl _ _).drew).mono ?_; rintro e w1 ⟨v1, s1, rfl, hp1, ho1, hw1, hb1⟩; have hB1 : Below w.heap.size w w1 := (Below.refl _ _).drew.trans (hb1.mono (by simp)); obtain ⟨a1, c1, rfl, hc1, hA1⟩ := owns_atN hw1; clear ih1 hw1) | (go_at_call 56; refine (ih2 _ hB1).mono ?_; rintro e w2 ⟨v2, s2, rfl, hp2, ho2, hw2, hb2⟩; have hB2 : Below w.heap.size w w2 := hB1.trans (hb2.mono hB1.size); obtain ⟨a2, c2, rfl, hc2, hA2⟩ := owns_atN hw2; have hl1 : Hid (s1.length ≤ 400) := ⟨by have h0 := hp1.length_eq; omega⟩; have hl2 : Hid (s2.length ≤ 400) := ⟨by have h0 := hp2.length_eq; omega⟩; clear ih2 hw2) | (go_at_call 63; refine (hmg s1 s2 a1 a2 c1 c2 w2 hl1.out hl2.out hc1 hc2 (hA1.stays hb2) hA2).mono ?_; rintro e w3 ⟨v3, rfl, hO3, hb3⟩))
      have hB3 : Below w.heap.size w w3 := hB2.trans (hb3.mono hB2.size)
      have HF : Hid (w3.ownsRow w.heap.size 53 4 v3 (mrgC s1 s2).length (flatG NodG.cells (mrgC s1 s2))) := ⟨owns_lower hO3.1 hB2.size⟩
      clear hmg hO3
      go_wp2
      go_ret
      refine ⟨v3, mrgC s1 s2, rfl, ?_, mrgC_ord ho1 ho2, HF.out, hB3⟩
      refine (mrgC_perm s1 s2).trans ((hp1.append hp2).trans ?_)
      rw [List.take_append_drop]
end Go.Proofs.YtmidembbanlleafDoor.OpR
