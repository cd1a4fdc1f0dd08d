/- Plain mathematics of reading a number from its bytes, seven bits a byte; and a law for a scope in which the run jumps to several labels: no program is named here. -/
import Derived.Test.YtlphcbgeagmopaaRows
import Derived.WalkKit
import Derived.WalkSpells
import Derived.WalkLawsBesides
import Derived.ProofKit
import Derived.Deep.Light
import Derived.WalkMore
import Derived.Scope
namespace Go.Proofs.Ytlphcbgeagmopaa.GetR
open Go.RowKit
set_option linter.unusedVariables false

/-- By a goto to label l: J l; else as Q. -/
def jumpM (J : Nat → Act → World → Prop) (Q : Exit → Act → World → Prop) : Exit → Act → World → Prop
  | .goto l, a, w => J l a w
  | e, a, w => Q e a w

/-- A scope in which the run jumps to several labels: what holds at each jump, and a measure that every pass from a label lowers. -/
theorem wp_scope_many {P : Program} {a : Act} {w : World} {Q : Exit → Act → World → Prop} {c : Code} (J : Nat → Act → World → Prop) (μ : Nat → Act → World → Nat) (rest : Nat → Code)
    (hf : ∀ l a w, J l a w → findLabel c l = some (rest l))
    (first : c.wp P (jumpM J Q) a w)
    (pass : ∀ l a w, J l a w → (rest l).wp P (jumpM (fun l' a' w' => J l' a' w' ∧ μ l' a' w' < μ l a w) Q) a w) : (Code.scope c).wp P Q a w := by
  intro b k cs
  have hg : ∀ l a w, J l a w → gotoIn l (.inScope c :: k) = some (.code (rest l) :: .inScope c :: k) := fun l a w h => by simp [gotoIn, hf l a w h]
  have key : ∀ n l a w, μ l a w = n → J l a w → ∃ e a' w', Q e a' w' ∧ Arrives P (lone (b.at a (.code (rest l) :: .inScope c :: k)) cs w) b k cs e a' w' := by
    intro n
    induction n using Nat.strongRecOn with
    | _ n ih =>
      intro l a w hn hJ
      obtain ⟨e, a₁, w₁, hq, harr⟩ := pass l a w hJ b (.inScope c :: k) cs
      cases e with
      | normal => exact ⟨.normal, a₁, w₁, hq, Steps.trans harr (.one step_inScope)⟩
      | exit id => exact ⟨.exit id, a₁, w₁, hq, fun k' hk => harr k' (by simp [exitTo, hk])⟩
      | goto l' =>
        obtain ⟨hJ', hlt⟩ := hq
        obtain ⟨e₂, a₂, w₂, hq₂, harr₂⟩ := ih _ (by omega) l' a₁ w₁ rfl hJ'
        exact ⟨e₂, a₂, w₂, hq₂, .of_steps (harr _ (hg l' a₁ w₁ hJ')) harr₂⟩
      | ret => exact ⟨_, a₁, w₁, hq, harr⟩
      | panic ch => exact ⟨_, a₁, w₁, hq, harr⟩
      | outgrown => exact ⟨_, a₁, w₁, hq, harr⟩
  obtain ⟨e, a₁, w₁, hq, harr⟩ := first b (.inScope c :: k) cs
  cases e with
  | normal => exact ⟨.normal, a₁, w₁, hq, .head step_scope (Steps.trans harr (.one step_inScope))⟩
  | exit id => exact ⟨.exit id, a₁, w₁, hq, fun k' hk => .head step_scope (harr k' (by simp [exitTo, hk]))⟩
  | goto l' =>
    have hJ' : J l' a₁ w₁ := hq
    obtain ⟨e₂, a₂, w₂, hq₂, harr₂⟩ := key _ l' a₁ w₁ rfl hJ'
    exact ⟨e₂, a₂, w₂, hq₂, .of_steps (.head step_scope (harr _ (hg l' a₁ w₁ hJ'))) harr₂⟩
  | ret => exact ⟨_, a₁, w₁, hq, .of_steps (.one step_scope) harr⟩
  | panic ch => exact ⟨_, a₁, w₁, hq, .of_steps (.one step_scope) harr⟩
  | outgrown => exact ⟨_, a₁, w₁, hq, .of_steps (.one step_scope) harr⟩

/-- By a goto to label 0, 1, 2: J0, J1, J2; by any other goto: no way out; else as Q. -/
def jump3 (J0 J1 J2 : Act → World → Prop) (Q : Exit → Act → World → Prop) : Exit → Act → World → Prop
  | .goto 0, a, w => J0 a w
  | .goto 1, a, w => J1 a w
  | .goto 2, a, w => J2 a w
  | .goto _, _, _ => False
  | e, a, w => Q e a w
theorem jump3_m {J0 J1 J2 : Act → World → Prop} {Q : Exit → Act → World → Prop} {K : Nat → Act → World → Prop} (h0 : ∀ a w, J0 a w → K 0 a w) (h1 : ∀ a w, J1 a w → K 1 a w) (h2 : ∀ a w, J2 a w → K 2 a w) (e : Exit) (a : Act) (w : World) (h : jump3 J0 J1 J2 Q e a w) : jumpM K Q e a w := by
  cases e with
  | goto l =>
    match l, h with
    | 0, h => exact h0 a w h
    | 1, h => exact h1 a w h
    | 2, h => exact h2 a w h
    | n + 3, h => exact h.elim
  | normal => exact h
  | exit id => exact h
  | ret => exact h
  | panic ch => exact h
  | outgrown => exact h

theorem jump3_le {J0 J1 J2 K0 K1 K2 : Act → World → Prop} {Q : Exit → Act → World → Prop} (h0 : ∀ a w, J0 a w → K0 a w) (h1 : ∀ a w, J1 a w → K1 a w) (h2 : ∀ a w, J2 a w → K2 a w) (e : Exit) (a : Act) (w : World) (h : jump3 J0 J1 J2 Q e a w) : jump3 K0 K1 K2 Q e a w := by
  cases e with
  | goto l =>
    match l, h with
    | 0, h => exact h0 a w h
    | 1, h => exact h1 a w h
    | 2, h => exact h2 a w h
    | n + 3, h => exact h.elim
  | normal => exact h
  | exit id => exact h
  | ret => exact h
  | panic ch => exact h
  | outgrown => exact h

/-- Label 1 is jumped back to; from it the run goes to labels 2 and 0; from label 2 to label 0. -/
theorem wp_scope_three {P : Program} {a : Act} {w : World} {Q : Exit → Act → World → Prop} {c r0 r1 r2 : Code} (J0 J1 J2 : Act → World → Prop) (μ : Act → World → Nat)
    (f0 : findLabel c 0 = some r0) (f1 : findLabel c 1 = some (Code.skip.seq r1)) (f2 : findLabel c 2 = some r2)
    (first : (∀ a w, J1 a w → r1.wp P (jump3 J0 J1 J2 Q) a w) → c.wp P (jump3 J0 J1 J2 Q) a w)
    (p1 : ∀ a w, J1 a w → r1.wp P (jump3 J0 (fun a' w' => J1 a' w' ∧ μ a' w' < μ a w) J2 Q) a w)
    (p2 : ∀ a w, J2 a w → r2.wp P (jump3 J0 (fun _ _ => False) (fun _ _ => False) Q) a w)
    (p0 : ∀ a w, J0 a w → r0.wp P (jump3 (fun _ _ => False) (fun _ _ => False) (fun _ _ => False) Q) a w) : (Code.scope c).wp P Q a w := by
  refine wp_scope_many (fun l a w => (l = 0 ∧ J0 a w) ∨ (l = 1 ∧ J1 a w) ∨ (l = 2 ∧ J2 a w)) (fun l a w => if l = 0 then 0 else if l = 2 then 1 else μ a w + 2) (fun l => if l = 0 then r0 else if l = 1 then Code.skip.seq r1 else r2) ?_ ?_ ?_
  · rintro l a w (⟨rfl, _⟩ | ⟨rfl, _⟩ | ⟨rfl, _⟩)
    · exact f0
    · exact f1
    · exact f2
  · exact wp_mono (first fun a w h => wp_mono (p1 a w h) (jump3_le (fun _ _ h => h) (fun _ _ h => h.1) (fun _ _ h => h))) (jump3_m (fun a w h => .inl ⟨rfl, h⟩) (fun a w h => .inr (.inl ⟨rfl, h⟩)) (fun a w h => .inr (.inr ⟨rfl, h⟩)))
  · rintro l a w (⟨rfl, h⟩ | ⟨rfl, h⟩ | ⟨rfl, h⟩)
    · exact wp_mono (p0 a w h) (jump3_m (fun _ _ h => h.elim) (fun _ _ h => h.elim) (fun _ _ h => h.elim))
    · refine wp_seq (wp_skip ?_)
      exact wp_mono (p1 a w h) (jump3_m (fun a' w' h => ⟨.inl ⟨rfl, h⟩, by simp⟩) (fun a' w' h => ⟨.inr (.inl ⟨rfl, h.1⟩), by have := h.2; simp; omega⟩) (fun a' w' h => ⟨.inr (.inr ⟨rfl, h⟩), by simp⟩))
    · exact wp_mono (p2 a w h) (jump3_m (fun a' w' h => ⟨.inl ⟨rfl, h⟩, by simp⟩) (fun _ _ h => h.elim) (fun _ _ h => h.elim))

def at0 (s : ByteArray) (j : Nat) : Int := (s.data.toList.getD j 0).toNat
theorem at0_eq (s : ByteArray) (j : Nat) (h : j < s.size) : at0 s j = (s[j].toNat : Int) := by
  unfold at0
  have h' : j < s.data.toList.length := by simpa using h
  simp only [List.getD_eq_getElem?_getD, List.getElem?_eq_getElem h', Option.getD_some]
  rfl
theorem at0_rng (s : ByteArray) (j : Nat) : 0 ≤ at0 s j ∧ at0 s j ≤ 255 := by
  unfold at0
  have := UInt8.toNat_lt (s.data.toList.getD j 0)
  omega

/-- One byte more. -/
def addB (u c : Int) (k : Nat) : Int := u + c % 128 * 2 ^ (7 * k)
/-- What is read: the number's bits, the place behind it, the code. -/
def outF (s : ByteArray) (a : Nat) : Nat → Nat → Int → Int × Int × Int
  | 0, i, u => (0, 0, 3)
  | f + 1, i, u =>
    if s.size ≤ a + i then (0, 0, 4)
    else if i = 9 ∧ 1 < at0 s (a + i) then (0, 0, 3)
    else if at0 s (a + i) < 128 then (if at0 s (a + i) = 0 ∧ 0 < i then (0, 0, 3) else (addB u (at0 s (a + i)) i, ((a + i + 1 : Nat) : Int), 0))
    else outF s a f (i + 1) (addB u (at0 s (a + i)) i)
theorem out_short {s : ByteArray} {a f i : Nat} {u : Int} (h : s.size ≤ a + i) : outF s a (f + 1) i u = (0, 0, 4) := if_pos h
theorem out_tenth {s : ByteArray} {a f i : Nat} {u : Int} (h : ¬ s.size ≤ a + i) (h9 : i = 9 ∧ 1 < at0 s (a + i)) : outF s a (f + 1) i u = (0, 0, 3) := (if_neg h).trans (if_pos h9)
theorem out_long {s : ByteArray} {a f i : Nat} {u : Int} (h : ¬ s.size ≤ a + i) (h9 : ¬ (i = 9 ∧ 1 < at0 s (a + i))) (hl : at0 s (a + i) < 128) (h0 : at0 s (a + i) = 0 ∧ 0 < i) : outF s a (f + 1) i u = (0, 0, 3) :=
  (if_neg h).trans ((if_neg h9).trans ((if_pos hl).trans (if_pos h0)))
theorem out_last {s : ByteArray} {a f i : Nat} {u : Int} (h : ¬ s.size ≤ a + i) (h9 : ¬ (i = 9 ∧ 1 < at0 s (a + i))) (hl : at0 s (a + i) < 128) (h0 : ¬ (at0 s (a + i) = 0 ∧ 0 < i)) : outF s a (f + 1) i u = (addB u (at0 s (a + i)) i, ((a + i + 1 : Nat) : Int), 0) :=
  (if_neg h).trans ((if_neg h9).trans ((if_pos hl).trans (if_neg h0)))
theorem out_more {s : ByteArray} {a f i : Nat} {u : Int} (h : ¬ s.size ≤ a + i) (h9 : ¬ (i = 9 ∧ 1 < at0 s (a + i))) (hl : ¬ at0 s (a + i) < 128) : outF s a (f + 1) i u = outF s a f (i + 1) (addB u (at0 s (a + i)) i) :=
  (if_neg h).trans ((if_neg h9).trans (if_neg hl))
def out (s : ByteArray) (a : Nat) : Int × Int × Int := outF s a 10 0 0

/-- The number of the bits. -/
def dec (u : Int) : Int := if u % 2 = 1 then -(u / 2) - 1 else u / 2

theorem ret_int {k : IntKind} {a b : Int} (h : a = b) : Ending.returned (.int k a) = .returned (.int k b) := by rw [h]
theorem val_int {k : IntKind} {a b : Int} (h : a = b) : Value.int k a = .int k b := by rw [h]
def num (n a c : Int) : Value := .agg #[.int .i64 n, .int .i64 a, .int .i64 c]
/-- As NumOut tells it. -/
def numOf (o : Int × Int × Int) : Value := if o.2.2 = 0 then num (dec o.1) o.2.1 0 else num 0 0 o.2.2
theorem num_fault {o : Int × Int × Int} {c : Int} (h : o = (0, 0, c)) (hc : c ≠ 0) : num 0 0 c = numOf o := by subst h; exact (if_neg hc).symm
theorem num_odd {o : Int × Int × Int} {v a : Int} (h : o = (v, a, 0)) (hv : (v % 2 == 1) = true) : num (-(v / 2) - 1) a 0 = numOf o := by
  subst h
  have hv' : v % 2 = 1 := by simpa using hv
  unfold numOf dec; simp [hv']
theorem num_even {o : Int × Int × Int} {v a : Int} (h : o = (v, a, 0)) (hv : (v % 2 == 1) = false) : num (v / 2) a 0 = numOf o := by
  subst h
  have hv' : ¬ v % 2 = 1 := by simpa using hv
  unfold numOf dec; simp [hv']
theorem ret_num {x y : Value} (h : x = y) : Ending.returned x = .returned y := by rw [h]

theorem pow_le {k : Nat} (h : k ≤ 9) : (2 : Int) ^ (7 * k) ≤ 9223372036854775808 := by
  have : (2 : Nat) ^ (7 * k) ≤ 2 ^ 63 := Nat.pow_le_pow_right (by decide) (by omega)
  have e : ((2 ^ (7 * k) : Nat) : Int) = (2 : Int) ^ (7 * k) := by simp
  omega
theorem pow_pos {k : Nat} : (0 : Int) < 2 ^ (7 * k) := Int.pow_pos (by decide)
theorem pow_succ {k : Nat} : (2 : Int) ^ (7 * (k + 1)) = 128 * 2 ^ (7 * k) := by
  rw [show 7 * (k + 1) = 7 * k + 7 by omega, Int.pow_add]; omega
theorem mul_rng {x p : Int} (h0 : 0 ≤ x) (h1 : x ≤ 127) (hp : 0 < p) : 0 ≤ x * p ∧ x * p ≤ 127 * p :=
  ⟨Int.mul_nonneg h0 (Int.le_of_lt hp), Int.mul_le_mul_of_nonneg_right h1 (Int.le_of_lt hp)⟩
theorem addB_lt {u c : Int} {k : Nat} (h0 : 0 ≤ u) (h1 : u < 2 ^ (7 * k)) (hc : 0 ≤ c) : 0 ≤ addB u c k ∧ addB u c k < 2 ^ (7 * (k + 1)) := by
  have hp := pow_pos (k := k)
  have := mul_rng (x := c % 128) (p := 2 ^ (7 * k)) (by omega) (by omega) hp
  rw [pow_succ]; unfold addB; omega
theorem addB_64 {u c : Int} {k : Nat} (h0 : 0 ≤ u) (h1 : u < 2 ^ (7 * k)) (hc : 0 ≤ c) (hk : k ≤ 9) (h9 : ¬ (k = 9 ∧ 1 < c)) : 0 ≤ addB u c k ∧ addB u c k < 18446744073709551616 := by
  have hp := pow_pos (k := k)
  refine ⟨(addB_lt h0 h1 hc).1, ?_⟩
  by_cases e : k = 9
  · subst e
    have e9 : (2 : Int) ^ (7 * 9) = 9223372036854775808 := by decide
    have h2 : c % 128 ≤ 1 := by omega
    unfold addB
    rw [e9] at h1 ⊢
    omega
  · have h2 := (addB_lt h0 h1 hc).2
    rw [pow_succ] at h2
    have h3 : (2 : Int) ^ (7 * k) ≤ 72057594037927936 := by
      have : (2 : Nat) ^ (7 * k) ≤ 2 ^ 56 := Nat.pow_le_pow_right (by decide) (by omega)
      have e : ((2 ^ (7 * k) : Nat) : Int) = (2 : Int) ^ (7 * k) := by simp
      omega
    omega
theorem part_64 {c : Int} {k : Nat} (hc : 0 ≤ c) (hk : k ≤ 9) (h9 : ¬ (k = 9 ∧ 1 < c)) : 0 ≤ c % 128 * 2 ^ (7 * k) ∧ c % 128 * 2 ^ (7 * k) < 18446744073709551616 := by
  have := addB_64 (u := 0) (c := c) (k := k) (by omega) pow_pos hc hk h9
  unfold addB at this; omega
theorem addB_wrap {u c : Int} {k : Nat} (h0 : 0 ≤ u) (h1 : u < 2 ^ (7 * k)) (hc : 0 ≤ c) (hk : k ≤ 9) (h9 : ¬ (k = 9 ∧ 1 < c)) : IntKind.u64.wrap (u + IntKind.u64.wrap (c % 128 * 2 ^ (7 * k))) = addB u c k := by
  have a := part_64 hc hk h9
  have b := addB_64 h0 h1 hc hk h9
  rw [IntKind.wrap_u64, IntKind.wrap_u64, Int.emod_eq_of_lt a.1 a.2]
  exact Int.emod_eq_of_lt b.1 b.2

theorem addB_or {u c : Int} {k : Nat} (h0 : 0 ≤ u) (h1 : u < 2 ^ (7 * k)) (hc : 0 ≤ c) (hk : k ≤ 9) (h9 : ¬ (k = 9 ∧ 1 < c)) : bits .or .u64 u (IntKind.u64.wrap (c % 128 * 2 ^ (7 * k))) = addB u c k := by
  have a := part_64 hc hk h9
  have b := addB_64 h0 h1 hc hk h9
  rw [IntKind.wrap_u64, Int.emod_eq_of_lt a.1 a.2]
  obtain ⟨x, rfl⟩ : ∃ x : Nat, u = (x : Int) := ⟨u.toNat, by omega⟩
  obtain ⟨y, hy⟩ : ∃ y : Nat, c % 128 = (y : Int) := ⟨(c % 128).toNat, by omega⟩
  unfold addB at *
  rw [hy] at a b ⊢
  have e : (y : Int) * 2 ^ (7 * k) = ((y * 2 ^ (7 * k) : Nat) : Int) := by simp
  have hx : x < 2 ^ (7 * k) := by
    have : ((2 ^ (7 * k) : Nat) : Int) = (2 : Int) ^ (7 * k) := by simp
    omega
  rw [e] at a b ⊢
  have hj := nat_join (7 * k) (y * 2 ^ (7 * k)) x (Nat.mul_mod_left _ _) hx
  rw [u64_or_nat x (y * 2 ^ (7 * k)) (by omega) (by omega), Nat.or_comm, hj]
  omega

/-- As readBits tells it: the error is of type T. -/
def bitsOut (T : TypeId) (o : Int × Int × Int) : Value := if o.2.2 = 0 then .tuple #[.int .u64 o.1, .int .i64 o.2.1, .nilIface] else .tuple #[.int .u64 0, .int .i64 0, .iface T (.agg #[.int .i64 o.2.2])]
theorem bits_fault {T : TypeId} {o : Int × Int × Int} {c : Int} (h : o = (0, 0, c)) (hc : c ≠ 0) : Value.tuple #[.int .u64 0, .int .i64 0, .iface T (.agg #[.int .i64 c])] = bitsOut T o := by subst h; exact (if_neg hc).symm
theorem bits_right {T : TypeId} {o : Int × Int × Int} {v a : Int} (h : o = (v, a, 0)) : Value.tuple #[.int .u64 v, .int .i64 a, .nilIface] = bitsOut T o := by subst h; exact (if_pos rfl).symm

theorem outF_rng (s : ByteArray) (a : Nat) (ha : a ≤ 8000) : ∀ (f i : Nat) (u : Int), i + f = 10 → 0 ≤ u → u < 2 ^ (7 * i) →
    0 ≤ (outF s a f i u).1 ∧ (outF s a f i u).1 < 18446744073709551616 ∧ 0 ≤ (outF s a f i u).2.1 ∧ (outF s a f i u).2.1 ≤ s.size ∧ 0 ≤ (outF s a f i u).2.2 ∧ (outF s a f i u).2.2 ≤ 4
  | 0, i, u, hi, h0, h1 => by simp [outF]
  | f + 1, i, u, hi, h0, h1 => by
    by_cases h : s.size ≤ a + i
    · rw [out_short h]; simp
    by_cases h9 : i = 9 ∧ 1 < at0 s (a + i)
    · rw [out_tenth h h9]; simp
    have hc := at0_rng s (a + i)
    by_cases hl : at0 s (a + i) < 128
    · by_cases hz : at0 s (a + i) = 0 ∧ 0 < i
      · rw [out_long h h9 hl hz]; simp
      · rw [out_last h h9 hl hz]
        have := addB_64 h0 h1 hc.1 (by omega) h9
        simp only
        omega
    · rw [out_more h h9 hl]
      have := addB_lt (c := at0 s (a + i)) h0 h1 hc.1
      exact outF_rng s a ha f (i + 1) _ (by omega) this.1 this.2
theorem out_rng (s : ByteArray) (a : Nat) (ha : a ≤ 8000) : 0 ≤ (out s a).1 ∧ (out s a).1 < 18446744073709551616 ∧ 0 ≤ (out s a).2.1 ∧ (out s a).2.1 ≤ s.size ∧ 0 ≤ (out s a).2.2 ∧ (out s a).2.2 ≤ 4 :=
  outF_rng s a ha 10 0 0 rfl (by omega) (by decide)
theorem outF_zero (s : ByteArray) (a : Nat) : ∀ (f i : Nat) (u : Int), (outF s a f i u).2.2 ≠ 0 → (outF s a f i u).1 = 0 ∧ (outF s a f i u).2.1 = 0
  | 0, i, u, _ => by simp [outF]
  | f + 1, i, u, hne => by
    by_cases h : s.size ≤ a + i
    · rw [out_short h]; simp
    by_cases h9 : i = 9 ∧ 1 < at0 s (a + i)
    · rw [out_tenth h h9]; simp
    by_cases hl : at0 s (a + i) < 128
    · by_cases hz : at0 s (a + i) = 0 ∧ 0 < i
      · rw [out_long h h9 hl hz]; simp
      · rw [out_last h h9 hl hz] at hne; exact absurd rfl hne
    · rw [out_more h h9 hl] at hne ⊢
      exact outF_zero s a f (i + 1) _ hne
theorem out_zero (s : ByteArray) (a : Nat) {n x c : Int} (h : out s a = (n, x, c)) (hc : c ≠ 0) : n = 0 ∧ x = 0 := by
  have := outF_zero s a 10 0 0
  have e : outF s a 10 0 0 = (n, x, c) := h
  rw [e] at this
  exact this hc
theorem and_one (u : Int) (h0 : 0 ≤ u) (h1 : u < 18446744073709551616) : bits .and .u64 u 1 = u % 2 := by
  obtain ⟨x, rfl⟩ : ∃ x : Nat, u = (x : Int) := ⟨u.toNat, by omega⟩
  have e := u64_and_nat x 1 (by omega) (by omega)
  rw [nat_mask1] at e
  exact e.trans (by omega)
theorem xor_z (a : Int) (h0 : 0 ≤ a) (h1 : a ≤ 9223372036854775807) : bits .xor .i64 a 0 = a := by
  show IntKind.i64.wrap ((BitVec.ofInt 64 a ^^^ BitVec.ofInt 64 0).toNat : Int) = _
  have e : BitVec.ofInt 64 0 = 0#64 := by decide
  rw [e, BitVec.xor_zero, BitVec.toNat_ofInt, IntKind.wrap_i64]
  omega
theorem xor_m (a : Int) (h0 : 0 ≤ a) (h1 : a ≤ 9223372036854775807) : bits .xor .i64 a (-1) = -a - 1 := by
  show IntKind.i64.wrap ((BitVec.ofInt 64 a ^^^ BitVec.ofInt 64 (-1)).toNat : Int) = _
  have e : BitVec.ofInt 64 (-1) = BitVec.allOnes 64 := by decide
  rw [e, BitVec.xor_allOnes, BitVec.toNat_not, BitVec.toNat_ofInt, IntKind.wrap_i64]
  omega
theorem dec_bits (u : Int) (h0 : 0 ≤ u) (h1 : u < 18446744073709551616) : bits .xor .i64 (u / 2) (-(u % 2)) = dec u := by
  unfold dec
  by_cases e : u % 2 = 1
  · rw [if_pos e, e, xor_m _ (by omega) (by omega)]
  · rw [if_neg e, show u % 2 = 0 by omega, show (-(0 : Int)) = 0 from rfl, xor_z _ (by omega) (by omega)]
theorem dec_rng (u : Int) (h0 : 0 ≤ u) (h1 : u < 18446744073709551616) : -9223372036854775808 ≤ dec u ∧ dec u ≤ 9223372036854775807 := by
  unfold dec; split <;> omega
end Go.Proofs.Ytlphcbgeagmopaa.GetR
