/- Plain mathematics of the promise of deeds: what is put to a log in whatever order, or twice, makes the same log; right deeds come back from their bytes. -/
import Derived.Test.YtlphcbgeagmopaaSLog
import Derived.Test.YtlphcbgeagmopaaSortM
import Derived.Test.YtlphcbgeagmopaaRdE
namespace Go.Proofs.Ytlphcbgeagmopaa.OpR
set_option linter.unusedVariables false

theorem add_some {l m k : List OpV} (hl : Strict l) (hk : Strict k) (h : ∀ x, x ∈ k ↔ x ∈ l ++ m) : addAll (l, 0) m = some (k, (k.length : Int) - l.length) := by
  obtain ⟨h3, h4⟩ := addAll_spec m (l, 0) hl
  cases ha : addAll (l, 0) m with
  | none => exact absurd (clash_of (fun x hx => (h x).2 hx) (h4 ha)) (strict_no_clash hk)
  | some t =>
    obtain ⟨b1, b2, b3⟩ := h3 t ha
    have e : t.1 = k := strict_unique b1 hk fun x => by rw [b2 x, h x]
    have e2 : t.2 = (k.length : Int) - l.length := by rw [e] at b3; simp at b3; omega
    rw [← e2, ← e]
/-- What a log that is told is. -/
structure LogIs (l m k : List OpV) : Prop where
  log : LogR l
  ops : OpsR m
  told : LogR k
  mem : ∀ x, x ∈ k ↔ x ∈ l ++ m
theorem log_ok {l m : List OpV} {r : List OpV × Int × Int} (h : r = logRes l m) (h0 : r.2.2 = 0) : LogIs l m r.1 ∧ r.2.1 = (r.1.length : Int) - l.length := by
  by_cases h400 : 400 < l.length ∨ 400 < m.length
  · rw [log_far h400] at h; subst h; simp at h0
  by_cases hr : logRight l = true ∧ opsRight m = true
  · rw [log_add h400 hr] at h
    have hL := log_of hr.1
    have hM := opsR_of hr.2
    have hS := rises_strict hL.2.2
    obtain ⟨h3, _⟩ := addAll_spec m (l, 0) hS
    cases ha : addAll (l, 0) m with
    | none => rw [res_none ha] at h; subst h; simp at h0
    | some t =>
      obtain ⟨k, j⟩ := t
      obtain ⟨b1, b2, b3⟩ := h3 _ ha
      by_cases hf : 150 < k.length
      · rw [res_full ha hf] at h; subst h; simp at h0
      · rw [res_some ha hf] at h
        subst h
        simp only at b1 b2 b3
        refine ⟨⟨hL, hM, ⟨fun i hi => ?_, Nat.le_of_not_lt hf, strict_rises b1⟩, b2⟩, by simp only; omega⟩
        have hx := (b2 k[i]).1 (List.getElem_mem hi)
        rcases List.mem_append.1 hx with hx | hx
        · obtain ⟨q, hq, e⟩ := List.getElem_of_mem hx
          rw [← e]; exact hL.1 q hq
        · obtain ⟨q, hq, e⟩ := List.getElem_of_mem hx
          rw [← e]; exact hM.2.1 q hq
  · rw [log_form h400 hr] at h; subst h; simp at h0
theorem log_bad {l m : List OpV} {r : List OpV × Int × Int} (h : r = logRes l m) (h0 : ¬ r.2.2 = 0) : r.1 = [] := by
  by_cases h400 : 400 < l.length ∨ 400 < m.length
  · rw [log_far h400] at h; subst h; rfl
  by_cases hr : logRight l = true ∧ opsRight m = true
  · rw [log_add h400 hr] at h
    cases ha : addAll (l, 0) m with
    | none => rw [res_none ha] at h; subst h; rfl
    | some t =>
      obtain ⟨k, j⟩ := t
      by_cases hf : 150 < k.length
      · rw [res_full ha hf] at h; subst h; rfl
      · rw [res_some ha hf] at h; subst h; exact absurd rfl h0
  · rw [log_form h400 hr] at h; subst h; rfl
theorem log_told {l m k : List OpV} (hl : LogR l) (hm : OpsR m) (hk : LogR k) (h : ∀ x, x ∈ k ↔ x ∈ l ++ m) : logRes l m = (k, (k.length : Int) - l.length, 0) := by
  have h1 := hl.2.1
  have h2 := hm.1
  have h3 := hk.2.1
  rw [log_add (by omega) ⟨log_yes hl, ops_yes hm⟩, res_some (add_some (rises_strict hl.2.2) (rises_strict hk.2.2) h) (by omega)]
/-- Twice the same. -/
theorem log_twice {l m k : List OpV} (h : LogIs l m k) : logRes k m = (k, 0, 0) := by
  have e := log_told (l := k) (m := m) (k := k) h.told h.ops h.told (fun x => ⟨fun hx => List.mem_append_left _ hx, fun hx => by
    rcases List.mem_append.1 hx with hx | hx
    · exact hx
    · exact (h.mem x).2 (List.mem_append_right _ hx)⟩)
  rw [e]; simp
/-- In whatever order. -/
theorem log_order {l m n x a b : List OpV} (hx : LogIs l m x) (ha : LogIs x n a) (hb : LogIs l n b) : logRes b m = (a, (a.length : Int) - b.length, 0) :=
  log_told hb.told hx.ops ha.told (fun y => by
    rw [ha.mem y]
    simp only [List.mem_append, hx.mem y, hb.mem y]
    constructor
    · rintro ((h | h) | h)
      · exact .inl (.inl h)
      · exact .inr h
      · exact .inl (.inr h)
    · rintro ((h | h) | h)
      · exact .inl (.inl h)
      · exact .inr h
      · exact .inl (.inr h))
/-- Right deeds come back from their bytes. -/
theorem read_back {m : List OpV} (h : ¬ opsBytes m = ByteArray.empty) : readRes (opsBytes m) = (m, 0, 0) := by
  by_cases hr : opsRight m = true
  · by_cases hz : 8000 < (rawBytes m).size
    · exact absurd (bytes_far hr hz) h
    · have e := bytes_yes hr hz
      have hR := ops_of hr
      have hi : ∀ o ∈ m, InO o := fun o ho => by
        obtain ⟨j, hj, rfl⟩ := List.getElem_of_mem ho
        exact in_right (hR.2.1 j hj)
      obtain ⟨t, ht⟩ : ∃ t, t = rawBytes m := ⟨_, rfl⟩
      have hb : bs t = bs (NumR.putNum m.length) ++ allBytes m := by rw [ht, bs_raw]
      have hseg : Seg t 0 t.size (bs (NumR.putNum m.length) ++ allBytes m) := ⟨by rw [List.drop_zero, hb, List.drop_of_length_le (by rw [← hb, bs_len]; exact Nat.le_refl _), List.append_nil], by rw [← hb, bs_len]; omega, Nat.le_refl _⟩
      obtain ⟨s1, s2⟩ := hseg.split
      have hnn := rN_put (n := (m.length : Int)) ⟨by omega, by have := hR.1; omega⟩ s1
      have hA : rAll t = (m, some t.size) := by
        unfold rAll
        rw [hnn, Int.toNat_natCast, rLoop_put m [] _ _ hi s2]
        rfl
      rw [e, ← ht]
      have h8 : ¬ 8000 < t.size := by rw [ht]; exact hz
      rw [read_yes h8 (by rw [hA]; show opsBytes m = t; rw [e, ht]), hA]
  · exact absurd (bytes_no (by simpa using hr)) h
theorem read_code {t : ByteArray} {r : List OpV × Int × Int} (h : r = readRes t) (h0 : r.2.2 = 0) : opsBytes r.1 = t := by
  by_cases h8 : 8000 < t.size
  · rw [read_far h8] at h; subst h; simp at h0
  by_cases he : opsBytes (rAll t).1 = t
  · rw [read_yes h8 he] at h; subst h; exact he
  · rw [read_no h8 he] at h; subst h; simp at h0
end Go.Proofs.Ytlphcbgeagmopaa.OpR
