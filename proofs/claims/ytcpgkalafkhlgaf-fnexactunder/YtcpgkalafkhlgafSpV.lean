/- Proves what spec.Above tells. -/
import Derived.Test.YtcpgkalafkhlgafSpU
namespace Go.Proofs.Ytcpgkalafkhlgaf.OpR
open Go.ChangeShapes Go.WideShapes Go.ChangeAt Go.RowKit
set_option linter.unusedVariables false

theorem ab_stable {f : Int → Option Int} (h0 : f 0 = none) (h1 : f 1 = none) (y : Int) : ∀ {k : Nat} {x : Int}, endsF f k x = true → abF f y (k + 1) x = abF f y k x := by
  intro k
  induction k with
  | zero => intro x h; simp [endsF] at h
  | succ k ih =>
    intro x h
    obtain ⟨j, e, hc⟩ := ends_cases h
    obtain rfl := Nat.succ.inj e
    rcases hc with hx | ⟨_, _, z, hz, hk⟩
    · have hn : f x = none := by rcases hx with rfl | rfl <;> assumption
      simp [abF, hn]
    · show (if x = y then true else match f x with | none => false | some z => abF f y (k + 1) z) = (if x = y then true else match f x with | none => false | some z => abF f y k z)
      rw [hz]
      simp only
      rw [ih hk]
theorem ab_place {f : Int → Option Int} (h0 : f 0 = none) (h1 : f 1 = none) {y : Int} : ∀ {k j : Nat} {x : Int}, endsF f j x = true → abF f y k x = true → y = 0 ∨ y = 1 ∨ ∃ z, f y = some z := by
  intro k
  induction k with
  | zero => intro j x _ h; simp [abF] at h
  | succ k ih =>
    intro j x he h
    obtain ⟨i, _, hc⟩ := ends_cases he
    by_cases hxy : x = y
    · subst hxy
      rcases hc with (hx | hx) | ⟨_, _, z, hz, _⟩
      · exact .inl hx
      · exact .inr (.inl hx)
      · exact .inr (.inr ⟨z, hz⟩)
    · rcases hc with hx | ⟨_, _, z, hz, hk⟩
      · have hn : f x = none := by rcases hx with rfl | rfl <;> assumption
        simp [abF, hxy, hn] at h
      · exact ih hk (by simpa [abF, hxy, hz] using h)
/-- How many steps the way up has. -/
def stepsF (f : Int → Option Int) : Nat → Int → Nat
  | 0, _ => 0
  | k + 1, x => if x = 0 ∨ x = 1 then 0 else match f x with
    | none => 0
    | some y => stepsF f k y + 1
theorem steps_stable {f : Int → Option Int} : ∀ {k : Nat} {x : Int}, endsF f k x = true → stepsF f (k + 1) x = stepsF f k x := by
  intro k
  induction k with
  | zero => intro x h; simp [endsF] at h
  | succ k ih =>
    intro x h
    obtain ⟨j, e, hc⟩ := ends_cases h
    obtain rfl := Nat.succ.inj e
    rcases hc with hx | ⟨hx0, hx1, z, hz, hk⟩
    · simp [stepsF, hx]
    · show (if x = 0 ∨ x = 1 then 0 else match f x with | none => 0 | some y => stepsF f (k + 1) y + 1) = (if x = 0 ∨ x = 1 then 0 else match f x with | none => 0 | some y => stepsF f k y + 1)
      rw [hz]
      simp only
      rw [ih hk]
def stepsV (f : Int → Option Int) (N : Nat) (v : Value) : Nat := stepsF f N (intOf v)
def placeB (l : List NodG) (x : Int) : Bool := decide (x = 0) || (decide (x = 1) || (nodOf l x).isSome)
theorem tree_par {l : List NodG} (h : TreeR l) : par l 0 = none ∧ par l 1 = none := by
  have h2 : ∀ n ∈ l, isIn n.id 2 1000000 = true := fun n hn => by have := h.2.2 n hn; unfold nodOk at this; rw [Bool.and_eq_true] at this; exact this.1
  exact ⟨by unfold par; rw [no_low h2 (x := 0) (by omega)]; rfl, by unfold par; rw [no_low h2 (x := 1) (by omega)]; rfl⟩
theorem tree_ends {l : List NodG} (h : TreeR l) {x : Int} {n : NodG} (hn : nodOf l x = some n) : endsF (par l) (l.length + 1) x = true := by
  obtain ⟨hm, rfl⟩ := nodOf_some hn
  have := h.2.2 n hm
  unfold nodOk at this
  rw [Bool.and_eq_true, Bool.and_eq_true, Bool.and_eq_true] at this
  exact this.2.2.2
def aboveB (l : List NodG) (x y : Int) : Bool := treeRight l && ((nodOf l x).isSome && abF (par l) y (l.length + 1) x)

set_option maxRecDepth 100000 in
set_option maxHeartbeats 400000 in
theorem sPlace_any (l : List NodG) (ao : Option Addr) (cap : Nat) (x : Int) (w : World) (hl : l.length ≤ 1048576) (hA : NodesAt w ao l) :
    Calls Try.prog 35 #[.agg #[.slice ao l.length cap], .int .i64 x] w fun e w' => e = .returned (.bool (placeB l x)) ∧ Below w.heap.size w w' := by
  have hat := fun x W (hW : Below w.heap.size w W) => sAt_any l ao cap x W (by unfold maxLen; omega) (hA.stays hW)
  have HT := hide hat
  have H1 := hide (Box1.start w (.slice ao l.length cap) 30)
  clear hA hat
  by_cases h0 : x = 0
  · have HF : Hid (placeB l x = true) := ⟨by simp [placeB, h0]⟩
    have b0 : (x == 0) = true := beq_iff_eq.2 h0
    clear h0
    go_enter Try.func35, Try.ntmps35
    go_wp2
    go_ret
    exact ⟨ret_bool (by rw [HF.out]), H1.out.below⟩
  · have b0 : (x == 0) = false := beq_eq_false_iff_ne.2 h0
    by_cases h1 : x = 1
    · have HF : Hid (placeB l x = true) := ⟨by simp [placeB, h1]⟩
      have b1 : (x == 1) = true := beq_iff_eq.2 h1
      clear h0 h1
      go_enter Try.func35, Try.ntmps35
      go_wp2
      go_ret
      exact ⟨ret_bool (by rw [HF.out]), H1.out.below⟩
    · have b1 : (x == 1) = false := beq_eq_false_iff_ne.2 h1
      rcases at_cases l x with ⟨ea, en⟩ | ⟨j, hj, ea, en, _⟩
      · have HF : Hid (placeB l x = false) := ⟨by simp [placeB, h0, h1, en]⟩
        have HEA := hide ea
        clear ea en h0 h1
        go_enter Try.func35, Try.ntmps35
        go_wp2_with (first | (go_at_call 31; refine (HT.out x _ H1.out.below).mono ?_; rintro e w1 ⟨rfl, hb1⟩; rw [HEA.out]))
        go_ret
        exact ⟨ret_bool (by rw [HF.out]), (H1.out.step hb1).below⟩
      · have HF : Hid (placeB l x = true) := ⟨by simp [placeB, en]⟩
        have HEA := hide ea
        have hj0 : (0 : Int) ≤ (j : Int) := by omega
        clear ea en h0 h1
        go_enter Try.func35, Try.ntmps35
        go_wp2_with (first | (go_at_call 31; refine (HT.out x _ H1.out.below).mono ?_; rintro e w1 ⟨rfl, hb1⟩; rw [HEA.out]))
        go_ret
        exact ⟨ret_bool (by rw [HF.out]), (H1.out.step hb1).below⟩

set_option maxRecDepth 100000 in
set_option maxHeartbeats 400000 in
theorem sUp_any (l : List NodG) (ao : Option Addr) (cap : Nat) (x y : Int) (w : World) (hl : l.length ≤ 1048576) (hA : NodesAt w ao l) (h0 : par l 0 = none) (h1 : par l 1 = none) (he : endsF (par l) (l.length + 1) x = true) :
    Calls Try.prog 36 #[.agg #[.slice ao l.length cap], .int .i64 x, .int .i64 y] w fun e w' => e = .returned (.bool (abF (par l) y (l.length + 1) x)) ∧ Below w.heap.size w w' := by
  have hat := fun x W (hW : Below w.heap.size w W) => sAt_any l ao cap x W (by unfold maxLen; omega) (hA.stays hW)
  have HT := hide hat
  have HA : Hid (NodesAt w ao l) := ⟨hA⟩
  have H01 := hide (And.intro h0 h1)
  have HE0 := hide he
  clear hA hat h0 h1 he
  go_enter Try.func36, Try.ntmps36
  go_wp2
  go_loopw [1] (fun z wr => ∃ (v : Int), z = .int .i64 v ∧ endsF (par l) (l.length + 1) v = true ∧ abF (par l) y (l.length + 1) x = abF (par l) y (l.length + 1) v ∧ Box1 w wr w.heap.size (.slice ao l.length cap) 30) (fun z _ => stepsV (par l) (l.length + 1) z)
  case atStart => exact ⟨x, rfl, HE0.out, rfl, Box1.start w _ _⟩
  case round =>
    obtain ⟨v, rfl, he, hab, hbx⟩ := hrel
    have HE := hide he
    have HAb := hide hab
    have HB := hide hbx
    have hc := hbx.cell
    clear he hab hbx
    by_cases hvy : v = y
    · have HF : Hid (abF (par l) y (l.length + 1) x = true) := ⟨by rw [HAb.out]; simp [abF, hvy]⟩
      have b0 : (v == y) = true := beq_iff_eq.2 hvy
      clear hvy
      go_wp2
      go_ret
      exact ⟨ret_bool (by rw [HF.out]), HB.out.below⟩
    · have b0 : (v == y) = false := beq_eq_false_iff_ne.2 hvy
      rcases at_cases l v with ⟨ea, en⟩ | ⟨j, hj, ea, en, _⟩
      · have HF : Hid (abF (par l) y (l.length + 1) x = false) := ⟨by rw [HAb.out]; simp [abF, hvy, par, en]⟩
        have HEA := hide ea
        clear ea en hvy
        go_wp2_with (first | (go_at_call 31; refine (HT.out v wr HB.out.below).mono ?_; rintro e w1 ⟨rfl, hb1⟩; rw [HEA.out]))
        go_ret
        exact ⟨ret_bool (by rw [HF.out]), (HB.out.step hb1).below⟩
      · have HEA := hide ea
        have hpv : par l v = some l[j].parent := by unfold par; rw [en]; rfl
        have HN : Hid (endsF (par l) l.length l[j].parent = true ∧ v ≠ 0 ∧ v ≠ 1) := ⟨by
          obtain ⟨i, e, hx | ⟨e0, e1, z, hz, hk⟩⟩ := ends_cases HE.out
          · rcases hx with rfl | rfl
            · rw [H01.out.1] at hpv; cases hpv
            · rw [H01.out.2] at hpv; cases hpv
          · obtain rfl := Nat.succ.inj e
            rw [hpv] at hz
            cases hz
            exact ⟨hk, e0, e1⟩⟩
        have HF : Hid (abF (par l) y (l.length + 1) x = abF (par l) y (l.length + 1) l[j].parent) := ⟨by
          rw [HAb.out, ab_stable H01.out.1 H01.out.2 y HN.out.1]
          simp [abF, hvy, hpv]⟩
        have HM : Hid (stepsV (par l) (l.length + 1) (.int .i64 l[j].parent) < stepsV (par l) (l.length + 1) (.int .i64 v)) := ⟨by
          show stepsF (par l) (l.length + 1) l[j].parent < stepsF (par l) (l.length + 1) v
          rw [steps_stable HN.out.1]
          have e : stepsF (par l) (l.length + 1) v = stepsF (par l) l.length l[j].parent + 1 := by simp [stepsF, HN.out.2.1, HN.out.2.2, hpv]
          omega⟩
        obtain ⟨b, off, rfl, hlt, ho, _⟩ := HA.out j hj
        have hj0 : (0 : Int) ≤ (j : Int) := by omega
        have hj1 : (j : Int) < (l.length : Int) := by omega
        have HO := hide ho
        clear ea en hvy ho hpv
        go_wp2_with (first | (go_at_call 31; refine (HT.out v wr HB.out.below).mono ?_; rintro e w1 ⟨rfl, hb1⟩; rw [HEA.out]; have hB1 := HB.out.step hb1; have hc1 := hB1.cell; obtain ⟨c0, c1, c2, c3⟩ := HO.out.block (hB1.below.block b hlt); clear hc))
        go_roundw
        case rel => exact ⟨l[j].parent, rfl, ends_mono (Nat.le_succ _) HN.out.1, HF.out, hB1⟩
        case measure => exact HM.out

end Go.Proofs.Ytcpgkalafkhlgaf.OpR
