/- Plain mathematics of reading ops from their bytes: what is read is what the bytes are of, and no other bytes are read. -/
import Derived.Test.YtlphcbgeagmopaaRoundM
import Derived.Test.YtlphcbgeagmopaaBytesW
namespace Go.Proofs.Ytlphcbgeagmopaa.OpR
open NumR (putNum putText leb leb_last leb_more hiB byte_lo byte_hi foldI foldI_neg foldI_pos)
open GetR (out outF at0 addB dec out_short out_tenth out_long out_last out_more at0_rng)
set_option linter.unusedVariables false

def bs (t : ByteArray) : List UInt8 := t.data.toList
theorem bs_len (t : ByteArray) : (bs t).length = t.size := by simp [bs]
theorem bs_app (a b : ByteArray) : bs (a ++ b) = bs a ++ bs b := by simp [bs]
theorem bs_inj {a b : ByteArray} (h : bs a = bs b) : a = b := by
  apply ByteArray.ext
  exact Array.toList_inj.1 h
theorem drop_at {s : ByteArray} {j : Nat} (h : j < s.size) : ∃ b : UInt8, at0 s j = (b.toNat : Int) ∧ (bs s).drop j = b :: (bs s).drop (j + 1) := by
  have hj : j < (bs s).length := by rw [bs_len]; exact h
  refine ⟨(bs s)[j], ?_, List.drop_eq_getElem_cons hj⟩
  unfold at0
  show (((bs s).getD j 0).toNat : Int) = _
  rw [List.getD_eq_getElem?_getD, List.getElem?_eq_getElem hj, Option.getD_some]
theorem pow_rest {i v r : Nat} (hi : i ≤ 8) (hr : r < 128) (h : v * 128 ^ (i + 1) < 18446744073709551616) : (r + 128 * v) * 128 ^ i < 18446744073709551616 := by
  have e : 128 ^ (i + 1) * 2 ^ (57 - 7 * i) = 18446744073709551616 := by
    rw [show (128 : Nat) = 2 ^ 7 from rfl, ← Nat.pow_mul, ← Nat.pow_add, show 7 * (i + 1) + (57 - 7 * i) = 64 by omega]
  obtain ⟨q, hq⟩ : ∃ q, q = 2 ^ (57 - 7 * i) := ⟨_, rfl⟩
  obtain ⟨p, hp⟩ : ∃ p, p = 128 ^ i := ⟨_, rfl⟩
  have e2 : 128 ^ (i + 1) = p * 128 := by rw [Nat.pow_succ, hp]
  have hp0 : 0 < p := by rw [hp]; exact Nat.pow_pos (by omega)
  rw [e2] at h e
  rw [← hq] at e
  rw [← hp]
  clear hq hp e2
  have hv : v < q := by
    refine Nat.lt_of_mul_lt_mul_left (a := p * 128) ?_
    rw [e, Nat.mul_comm]
    exact h
  have h1 : r + 128 * v < 128 * q := by omega
  have h2 : (r + 128 * v) * p < (128 * q) * p := Nat.mul_lt_mul_of_pos_right h1 hp0
  have e3 : (128 * q) * p = 18446744073709551616 := by rw [← e, Nat.mul_comm (128 * q) p, ← Nat.mul_assoc]
  rw [e3] at h2
  exact h2
set_option maxRecDepth 100000 in
theorem pow_last {i v : Nat} (hi : i ≤ 9) (hv : v < 128) (h9 : i = 9 → v ≤ 1) : v * 128 ^ i < 18446744073709551616 := by
  rcases (show i = 0 ∨ i = 1 ∨ i = 2 ∨ i = 3 ∨ i = 4 ∨ i = 5 ∨ i = 6 ∨ i = 7 ∨ i = 8 ∨ i = 9 by omega) with rfl | rfl | rfl | rfl | rfl | rfl | rfl | rfl | rfl | rfl <;> simp only [Nat.reducePow] <;> omega
/-- What is read without a fault are the bytes of a number, and no others. -/
theorem outF_back (s : ByteArray) (a : Nat) : ∀ (f i : Nat) (u0 u x : Int), i + f = 10 → outF s a f i u0 = (u, x, 0) →
    ∃ v b : Nat, u = u0 + v * 2 ^ (7 * i) ∧ x = (b : Int) ∧ (bs s).drop (a + i) = leb v ++ (bs s).drop b ∧ (0 < v ∨ i = 0) ∧ v * 128 ^ i < 18446744073709551616 ∧ b = a + i + (leb v).length ∧ b ≤ s.size
  | 0, i, u0, u, x, hi, h => by simp [outF] at h
  | f + 1, i, u0, u, x, hi, h => by
    by_cases h1 : s.size ≤ a + i
    · rw [out_short h1] at h; simp at h
    by_cases h9 : i = 9 ∧ 1 < at0 s (a + i)
    · rw [out_tenth h1 h9] at h; simp at h
    obtain ⟨c, hc, hd⟩ := drop_at (s := s) (j := a + i) (by omega)
    have hcn : c.toNat < 256 := UInt8.toNat_lt c
    by_cases hl : at0 s (a + i) < 128
    · by_cases hz : at0 s (a + i) = 0 ∧ 0 < i
      · rw [out_long h1 h9 hl hz] at h; simp at h
      · rw [out_last h1 h9 hl hz] at h
        simp only [Prod.mk.injEq, and_true] at h
        obtain ⟨hu, hx⟩ := h
        rw [hc] at hl hz h9 hu
        have hlt : c.toNat < 128 := by omega
        have e : leb c.toNat = [c] := by rw [leb_last hlt]; simp
        refine ⟨c.toNat, a + i + 1, ?_, hx.symm, by rw [e, hd]; rfl, by omega, pow_last (by omega) hlt (by omega), by rw [e]; simp, by omega⟩
        rw [← hu]; unfold addB
        rw [Int.emod_eq_of_lt (by omega) (by omega)]
    · rw [out_more h1 h9 hl] at h
      obtain ⟨v, b, hu, hx, hdr, hv, hp, hb, hs⟩ := outF_back s a f (i + 1) _ u x (by omega) h
      rw [hc] at hl h9 hu
      have hv0 : 0 < v := by omega
      have hge : ¬ (c.toNat % 128 + 128 * v) < 128 := by omega
      have hdv : (c.toNat % 128 + 128 * v) / 128 = v := by omega
      have hhi : hiB (c.toNat % 128 + 128 * v) = c := by
        apply UInt8.toNat_inj.1
        have := byte_hi (u := c.toNat % 128 + 128 * v)
        omega
      have e : leb (c.toNat % 128 + 128 * v) = c :: leb v := by rw [leb_more hge, hdv, hhi]
      refine ⟨c.toNat % 128 + 128 * v, b, ?_, hx, ?_, .inl (by omega), pow_rest (by omega) (by omega) hp, by rw [e]; simp; omega, hs⟩
      · rw [hu, GetR.pow_succ]; unfold addB
        have e2 : (((c.toNat % 128 + 128 * v : Nat) : Int)) = (c.toNat : Int) % 128 + 128 * v := by omega
        rw [e2, Int.add_mul, Int.add_assoc]
        congr 2
        rw [Int.mul_comm 128 (v : Int), Int.mul_assoc]
      · rw [e, hd, show a + i + 1 = a + (i + 1) by omega, hdr]; rfl
theorem fold_dec {u : Int} (h0 : 0 ≤ u) : foldI (dec u) = u := by
  unfold dec
  by_cases h : u % 2 = 1
  · rw [if_pos h, foldI_neg (by omega)]; omega
  · rw [if_neg h, foldI_pos (by omega)]; omega
theorem bs_put (n : Int) : bs (putNum n) = leb (foldI n).toNat := by simp [bs, putNum]

/-- A number read, from a place or from none. -/
def rN (t : ByteArray) : Option Nat → Int × Option Nat
  | none => (0, none)
  | some a => if (out t a).2.2 = 0 then (dec (out t a).1, some (out t a).2.1.toNat) else (0, none)
theorem rN_some (t : ByteArray) (a : Nat) : rN t (some a) = if (out t a).2.2 = 0 then (dec (out t a).1, some (out t a).2.1.toNat) else (0, none) := rfl
def inI (n : Int) : Prop := -9223372036854775808 ≤ n ∧ n ≤ 9223372036854775807
/-- From a on lie the bytes x, and they end at b. -/
def Seg (t : ByteArray) (a b : Nat) (x : List UInt8) : Prop := (bs t).drop a = x ++ (bs t).drop b ∧ b = a + x.length ∧ b ≤ t.size
theorem Seg.trans {t : ByteArray} {a b c : Nat} {x y : List UInt8} (h1 : Seg t a b x) (h2 : Seg t b c y) : Seg t a c (x ++ y) :=
  ⟨by rw [h1.1, h2.1, List.append_assoc], by rw [h2.2.1, h1.2.1, List.length_append]; omega, h2.2.2⟩
theorem Seg.split {t : ByteArray} {a c : Nat} {x y : List UInt8} (h : Seg t a c (x ++ y)) : Seg t a (a + x.length) x ∧ Seg t (a + x.length) c y := by
  obtain ⟨h1, h2, h3⟩ := h
  rw [List.length_append] at h2
  have hd : (bs t).drop (a + x.length) = y ++ (bs t).drop c := by
    rw [← List.drop_drop, h1, List.append_assoc, List.drop_left]
  exact ⟨⟨by rw [h1, hd, List.append_assoc], rfl, by omega⟩, ⟨hd, by omega, h3⟩⟩
theorem rN_back {t : ByteArray} {st : Option Nat} {n : Int} {b : Nat} (h : rN t st = (n, some b)) : ∃ a, st = some a ∧ inI n ∧ Seg t a b (bs (putNum n)) := by
  cases st with
  | none => simp [rN] at h
  | some a =>
    rw [rN_some] at h
    by_cases hc : (out t a).2.2 = 0
    · rw [if_pos hc] at h
      obtain ⟨⟨u, x, c⟩, ho⟩ : ∃ o, out t a = o := ⟨_, rfl⟩
      rw [ho] at h hc
      obtain rfl : c = 0 := hc
      obtain ⟨v, b', hu, hx, hd, hv, hp, hb, hs⟩ := outF_back t a 10 0 0 u x rfl ho
      simp only [Prod.mk.injEq, Option.some.injEq] at h
      obtain ⟨rfl, rfl⟩ := h
      have hu' : u = (v : Int) := by simpa using hu
      have hv64 : v < 18446744073709551616 := by simpa using hp
      subst hx
      refine ⟨a, rfl, GetR.dec_rng u (by omega) (by omega), ?_⟩
      rw [bs_put, fold_dec (by omega), hu', Int.toNat_natCast, Int.toNat_natCast]
      exact ⟨by simpa using hd, by simpa using hb, hs⟩
    · rw [if_neg hc] at h; simp at h
theorem rN_put {t : ByteArray} {a b : Nat} {n : Int} (hn : inI n) (h : Seg t a b (bs (putNum n))) : rN t (some a) = (n, some b) := by
  obtain ⟨h1, h2, h3⟩ := h
  rw [bs_put] at h1 h2
  have ho := GetR.out_put (s := t) (a := a) (r := (bs t).drop b) hn.1 hn.2 h1
  rw [rN_some, ho, if_pos rfl, GetR.dec_fold, h2]
  exact Prod.ext rfl (congrArg some (Int.toNat_natCast _))
theorem rN_none {t : ByteArray} {st : Option Nat} {n : Int} (h : rN t st = (n, none)) : n = 0 := by
  cases st with
  | none => simp [rN] at h; exact h.symm
  | some a =>
    rw [rN_some] at h
    split at h
    · simp at h
    · simp at h; exact h.symm

/-- A text read. -/
def rT (t : ByteArray) (st : Option Nat) : ByteArray × Option Nat :=
  match (rN t st).2 with
  | none => (⟨#[]⟩, none)
  | some x => if (rN t st).1 < 0 ∨ 8000 < (rN t st).1 ∨ (t.size : Int) - x < (rN t st).1 then (⟨#[]⟩, none) else (t.extract x (x + (rN t st).1.toNat), some (x + (rN t st).1.toNat))
theorem bs_text {s : ByteArray} (h : s.size ≤ 8000) : bs (putText s) = bs (putNum s.size) ++ bs s := by
  rw [NumR.putText_yes (by omega), NumR.cat_two, bs_app]
theorem rT_back {t s : ByteArray} {st : Option Nat} {b : Nat} (h : rT t st = (s, some b)) : ∃ a, st = some a ∧ s.size ≤ 8000 ∧ Seg t a b (bs (putText s)) := by
  unfold rT at h
  obtain ⟨⟨n, x⟩, hr⟩ : ∃ o, rN t st = o := ⟨_, rfl⟩
  rw [hr] at h
  cases x with
  | none => simp at h
  | some x =>
    simp only at h
    split at h
    · simp at h
    · rename_i hc
      simp only [Prod.mk.injEq, Option.some.injEq] at h
      obtain ⟨rfl, rfl⟩ := h
      obtain ⟨a, rfl, hn, h1, h2, h3⟩ := rN_back hr
      have hsz : (t.extract x (x + n.toNat)).size = n.toNat := by simp; omega
      refine ⟨a, rfl, by omega, ?_⟩
      rw [bs_text (by omega), hsz, Int.toNat_of_nonneg (by omega)]
      refine Seg.trans ⟨h1, h2, h3⟩ ⟨?_, by rw [bs_len, hsz], by omega⟩
      have e : bs (t.extract x (x + n.toNat)) = ((bs t).drop x).take n.toNat := by
        simp [bs]
      rw [e, ← List.drop_drop, List.take_append_drop]
theorem rT_put {t s : ByteArray} {a b : Nat} (hs : s.size ≤ 8000) (h : Seg t a b (bs (putText s))) : rT t (some a) = (s, some b) := by
  rw [bs_text hs] at h
  obtain ⟨h1, h2⟩ := h.split
  have hr := rN_put (n := (s.size : Int)) ⟨by omega, by omega⟩ h1
  have hb := h2.2.1
  have hle := h2.2.2
  rw [bs_len s] at hb
  unfold rT
  rw [hr]
  simp only
  rw [if_neg (by omega), Int.toNat_natCast, ← hb]
  have e : t.extract (a + (bs (putNum (s.size : Int))).length) b = s := by
    apply bs_inj
    have e2 : bs (t.extract (a + (bs (putNum (s.size : Int))).length) b) = ((bs t).drop (a + (bs (putNum (s.size : Int))).length)).take (b - (a + (bs (putNum (s.size : Int))).length)) := by
      simp [bs]
    rw [e2, h2.1, show b - (a + (bs (putNum (s.size : Int))).length) = (bs s).length by rw [bs_len s]; omega, List.take_left]
  rw [e]
theorem rT_none {t s : ByteArray} {st : Option Nat} (h : rT t st = (s, none)) : s = ⟨#[]⟩ := by
  unfold rT at h
  split at h
  · simp at h; exact h.symm
  · split at h
    · simp at h; exact h.symm
    · simp at h

/-- An op read. -/
def rOp (t : ByteArray) (st : Option Nat) : OpV × Option Nat :=
  let r0 := rN t st
  let r1 := rN t r0.2
  let r2 := rN t r1.2
  let r3 := rN t r2.2
  let r4 := rN t r3.2
  let r5 := rT t r4.2
  let r6 := rT t r5.2
  (⟨r0.1, r1.1, r2.1, r3.1, r4.1, r5.1, r6.1⟩, r6.2)
def opBytes (o : OpV) : List UInt8 := bs (putNum o.time) ++ (bs (putNum o.repl) ++ (bs (putNum o.kind) ++ (bs (putNum o.node) ++ (bs (putNum o.parent) ++ (bs (putText o.name) ++ bs (putText o.value))))))
def InO (o : OpV) : Prop := inI o.time ∧ inI o.repl ∧ inI o.kind ∧ inI o.node ∧ inI o.parent ∧ o.name.size ≤ 8000 ∧ o.value.size ≤ 8000
theorem rOp_back {t : ByteArray} {st : Option Nat} {o : OpV} {b : Nat} (h : rOp t st = (o, some b)) : ∃ a, st = some a ∧ InO o ∧ Seg t a b (opBytes o) := by
  unfold rOp at h
  simp only [Prod.mk.injEq] at h
  obtain ⟨rfl, h6⟩ := h
  obtain ⟨a6, e6, z6, s6⟩ := rT_back (Prod.ext rfl h6 : rT t _ = (_, some b))
  obtain ⟨a5, e5, z5, s5⟩ := rT_back (Prod.ext rfl e6 : rT t _ = (_, some a6))
  obtain ⟨a4, e4, z4, s4⟩ := rN_back (Prod.ext rfl e5 : rN t _ = (_, some a5))
  obtain ⟨a3, e3, z3, s3⟩ := rN_back (Prod.ext rfl e4 : rN t _ = (_, some a4))
  obtain ⟨a2, e2, z2, s2⟩ := rN_back (Prod.ext rfl e3 : rN t _ = (_, some a3))
  obtain ⟨a1, e1, z1, s1⟩ := rN_back (Prod.ext rfl e2 : rN t _ = (_, some a2))
  obtain ⟨a0, e0, z0, s0⟩ := rN_back (Prod.ext rfl e1 : rN t _ = (_, some a1))
  exact ⟨a0, e0, ⟨z0, z1, z2, z3, z4, z5, z6⟩, s0.trans (s1.trans (s2.trans (s3.trans (s4.trans (s5.trans s6)))))⟩
theorem rOp_put {t : ByteArray} {a b : Nat} {o : OpV} (hi : InO o) (h : Seg t a b (opBytes o)) : rOp t (some a) = (o, some b) := by
  obtain ⟨z0, z1, z2, z3, z4, z5, z6⟩ := hi
  unfold opBytes at h
  obtain ⟨s0, h⟩ := h.split
  obtain ⟨s1, h⟩ := h.split
  obtain ⟨s2, h⟩ := h.split
  obtain ⟨s3, h⟩ := h.split
  obtain ⟨s4, h⟩ := h.split
  obtain ⟨s5, s6⟩ := h.split
  unfold rOp
  simp only [rN_put z0 s0, rN_put z1 s1, rN_put z2 s2, rN_put z3 s3, rN_put z4 s4, rT_put z5 s5, rT_put z6 s6]

/-- So many ops read, up to a fault. -/
def rLoop (t : ByteArray) : Nat → List OpV × Option Nat → List OpV × Option Nat
  | 0, s => s
  | k + 1, (l, none) => (l, none)
  | k + 1, (l, some a) => rLoop t k (l ++ [(rOp t (some a)).1], (rOp t (some a)).2)
def rAll (t : ByteArray) : List OpV × Option Nat := rLoop t (rN t (some 0)).1.toNat ([], (rN t (some 0)).2)
def allBytes : List OpV → List UInt8
  | [] => []
  | o :: l => opBytes o ++ allBytes l
theorem rLoop_none (t : ByteArray) (k : Nat) (l : List OpV) : rLoop t k (l, none) = (l, none) := by cases k <;> rfl
theorem rLoop_back {t : ByteArray} : ∀ (k : Nat) (l0 l : List OpV) (st : Option Nat) (b : Nat), rLoop t k (l0, st) = (l, some b) → ∃ a m, st = some a ∧ l = l0 ++ m ∧ m.length = k ∧ (∀ o ∈ m, InO o) ∧ (k = 0 → a = b) ∧ (bs t).drop a = allBytes m ++ (bs t).drop b ∧ b = a + (allBytes m).length
  | 0, l0, l, st, b, h => by
    have h' : (l0, st) = (l, some b) := h
    cases h'
    exact ⟨b, [], rfl, by simp, rfl, by simp, fun _ => rfl, by simp [allBytes], by simp [allBytes]⟩
  | k + 1, l0, l, none, b, h => by simp [rLoop] at h
  | k + 1, l0, l, some a, b, h => by
    obtain ⟨⟨o, st'⟩, ho⟩ : ∃ r, rOp t (some a) = r := ⟨_, rfl⟩
    have h' : rLoop t k (l0 ++ [(rOp t (some a)).1], (rOp t (some a)).2) = (l, some b) := h
    rw [ho] at h'
    obtain ⟨a', m, hst, hl, hm, hi, h0, hd, hb⟩ := rLoop_back k _ l st' b h'
    subst hst
    obtain ⟨a2, e2, hio, hs1, hs2, hs3⟩ := rOp_back ho
    cases e2
    refine ⟨a, o :: m, rfl, by rw [hl]; simp, by simp [hm], ?_, by omega, ?_, ?_⟩
    · intro x hx
      rcases List.mem_cons.1 hx with rfl | hx
      · exact hio
      · exact hi x hx
    · rw [hs1, hd]; simp [allBytes]
    · rw [hb, hs2]; simp [allBytes]; omega
theorem rLoop_put {t : ByteArray} : ∀ (m l0 : List OpV) (a b : Nat), (∀ o ∈ m, InO o) → Seg t a b (allBytes m) → rLoop t m.length (l0, some a) = (l0 ++ m, some b)
  | [], l0, a, b, hi, h => by
    have : b = a := by have := h.2.1; simpa [allBytes] using this
    subst this
    simp [rLoop]
  | o :: m, l0, a, b, hi, h => by
    obtain ⟨h1, h2⟩ := h.split
    have ho := rOp_put (hi o (by simp)) h1
    show rLoop t m.length (l0 ++ [(rOp t (some a)).1], (rOp t (some a)).2) = _
    rw [ho, rLoop_put m _ _ b (fun x hx => hi x (by simp [hx])) h2]
    simp
theorem bs_from (t : ByteArray) (l : List OpV) : bs (bytesFrom t l) = bs t ++ allBytes l := by
  induction l generalizing t with
  | nil => simp [bytesFrom, allBytes]
  | cons o r ih =>
    show bs (bytesFrom (addOp t o) r) = _
    rw [ih]
    unfold addOp
    simp only [bs_app, allBytes, opBytes, List.append_assoc]
theorem bs_raw (l : List OpV) : bs (rawBytes l) = bs (putNum l.length) ++ allBytes l := bs_from _ _
theorem in_right {o : OpV} (h : opRight o = true) : InO o := by
  have := right_rng h
  unfold InO inI
  omega
theorem put_ne (n : Int) : bs (putNum n) ≠ [] := by
  rw [bs_put]
  by_cases h : (foldI n).toNat < 128
  · rw [leb_last h]; simp
  · rw [leb_more h]; simp
/-- The bytes are those of what is read, where all is read, and only there. -/
theorem read_same (t : ByteArray) (ht : t.size ≤ 8000) : ((rAll t).2 = some t.size ∧ 0 ≤ (rN t (some 0)).1 ∧ opsRight (rAll t).1 = true) ↔ opsBytes (rAll t).1 = t := by
  obtain ⟨⟨n, st⟩, hn⟩ : ∃ r, rN t (some 0) = r := ⟨_, rfl⟩
  obtain ⟨⟨l, e⟩, hl⟩ : ∃ r, rAll t = r := ⟨_, rfl⟩
  have hl' : rLoop t n.toNat ([], st) = (l, e) := by rw [← hl]; unfold rAll; rw [hn]
  rw [hl, hn]
  simp only
  constructor
  · rintro ⟨rfl, hn0, hr⟩
    obtain ⟨a, m, rfl, hlm, hm, hi, h0, hd, hb⟩ := rLoop_back _ _ _ _ _ hl'
    simp only [List.nil_append] at hlm
    subst hlm
    obtain ⟨a0, ea, hin, hs1, hs2, hs3⟩ := rN_back hn
    cases ea
    have hlen : (l.length : Int) = n := by omega
    have hraw : rawBytes l = t := by
      apply bs_inj
      rw [bs_raw, hlen]
      have : (bs t).drop 0 = bs (putNum n) ++ (allBytes l ++ (bs t).drop t.size) := by rw [hs1, hd]
      rw [List.drop_zero, List.drop_of_length_le (by rw [bs_len]; exact Nat.le_refl _), List.append_nil] at this
      exact this.symm
    rw [bytes_yes hr (by rw [hraw]; omega)]
    exact hraw
  · intro h
    by_cases hr : opsRight l = true
    · by_cases hz : 8000 < (rawBytes l).size
      · rw [bytes_far hr hz] at h
        subst h
        exfalso
        have h1 : rN ByteArray.empty (some 0) = (0, none) := by
          rw [rN_some, show out ByteArray.empty 0 = (0, 0, 4) from out_short (by simp)]
          simp
        rw [h1] at hn
        cases hn
        rw [rLoop_none] at hl'
        cases hl'
        have h2 : (rawBytes []).size ≤ 8000 := by
          have := putNum_small (n := 0) (by omega) (by omega)
          show (putNum (([] : List OpV).length : Int)).size ≤ 8000
          simp only [List.length_nil]
          exact Nat.le_trans this (by omega)
        omega
      · rw [bytes_yes hr hz] at h
        have hR := ops_of hr
        have hi : ∀ o ∈ l, InO o := fun o ho => by
          obtain ⟨j, hj, rfl⟩ := List.getElem_of_mem ho
          exact in_right (hR.2.1 j hj)
        have hb : bs t = bs (putNum l.length) ++ allBytes l := by rw [← h, bs_raw]
        have hseg : Seg t 0 t.size (bs (putNum l.length) ++ allBytes l) := ⟨by rw [List.drop_zero, hb, List.drop_of_length_le (by rw [← hb, bs_len]; exact Nat.le_refl _), List.append_nil], by rw [← hb, bs_len]; omega, Nat.le_refl _⟩
        obtain ⟨s1, s2⟩ := hseg.split
        have hnn := rN_put (n := (l.length : Int)) ⟨by omega, by have := hR.1; omega⟩ s1
        rw [hnn] at hn
        cases hn
        rw [Int.toNat_natCast, rLoop_put l [] _ _ hi s2] at hl'
        cases hl'
        exact ⟨rfl, by omega, hr⟩
    · rw [bytes_no (by simpa using hr)] at h
      subst h
      exfalso
      have h1 : rN ByteArray.empty (some 0) = (0, none) := by
        rw [rN_some, show out ByteArray.empty 0 = (0, 0, 4) from out_short (by simp)]
        simp
      rw [h1] at hn
      cases hn
      rw [rLoop_none] at hl'
      cases hl'
      exact hr (ops_yes ⟨by simp, fun i h => absurd h (by simp), fun i k h => absurd h (by simp)⟩)
/-- How far a reading can come: each op takes a byte at least. -/
theorem rLoop_len {t : ByteArray} : ∀ (k : Nat) (l0 l : List OpV) (st st' : Option Nat), rLoop t k (l0, st) = (l, st') → (∀ a, st = some a → l0.length ≤ a ∧ a ≤ t.size) → l0.length ≤ t.size + 1 → l.length ≤ t.size + 1
  | 0, l0, l, st, st', h, h1, h2 => by cases h; exact h2
  | k + 1, l0, l, none, st', h, h1, h2 => by
    have h' : (l0, none) = (l, st') := h
    cases h'; exact h2
  | k + 1, l0, l, some a, st', h, h1, h2 => by
    have h' : rLoop t k (l0 ++ [(rOp t (some a)).1], (rOp t (some a)).2) = (l, st') := h
    have ha := h1 a rfl
    obtain ⟨⟨o, st2⟩, ho⟩ : ∃ r, rOp t (some a) = r := ⟨_, rfl⟩
    rw [ho] at h'
    refine rLoop_len k _ l _ st' h' (fun b hb => ?_) (by simp; omega)
    have hb2 : st2 = some b := hb
    subst hb2
    obtain ⟨a', e, _, s1, s2, s3⟩ := rOp_back ho
    cases e
    have hlen : 1 ≤ (opBytes o).length := by
      unfold opBytes
      rw [List.length_append]
      have := List.length_pos_iff.2 (put_ne o.time)
      omega
    rw [List.length_append, List.length_singleton]
    omega
end Go.Proofs.Ytlphcbgeagmopaa.OpR
