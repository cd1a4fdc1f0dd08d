/- Proves what laws.lwOps tells of the same ops. Proves what spec.OpsRead answers where it tells a code: no list. A region that draws its order and whose operations leave the world in a class of worlds: one walk in the order of the text serves every order. Proves the walk of the law FnOps: drawn right deeds come back from their bytes; what is put to a log in whatever order, or twice, makes the same log. What is known of a row of bytes that comes in as an argument. -/
import Derived.Test.YtlphcbgeagmopaaRowO
import Derived.Test.YtlphcbgeagmopaaNeqOp
import Derived.Test.YtlphcbgeagmopaaReadW
import Derived.Test.YtlphcbgeagmopaaOpM
import Derived.Deep.QuietTactic
import Derived.BigQuiet
import Derived.Test.YtlphcbgeagmopaaDrRead
import Derived.Test.YtlphcbgeagmopaaFoA
import Derived.Test.YtlphcbgeagmopaaSrcV
import Derived.Test.YtlphcbgeagmopaaRows
import Derived.ProofKit
import Derived.SizedLaws
namespace Go.Proofs.Ytlphcbgeagmopaa.OpR
open Go.ChangeShapes Go.WideShapes Go.ChangeAt Go.RowKit
set_option linter.unusedVariables false

set_option maxRecDepth 100000 in
set_option maxHeartbeats 400000 in
theorem lwOps_same (l : List OpV) (ao1 ao2 : Option Addr) (c1 c2 : Nat) (w : World) (hl : l.length ≤ maxLen) (hA : OpsAt w ao1 l) (hC : OpsAt w ao2 l) :
    Calls Try.prog 9 #[.slice ao1 l.length c1, .slice ao2 l.length c2] w fun e w' => e = .returned (.bool true) ∧ Below w.heap.size w w' := by
  unfold maxLen at hl
  have HA : Hid (OpsAt w ao1 l) := ⟨hA⟩
  have HC : Hid (OpsAt w ao2 l) := ⟨hC⟩
  clear hA hC
  go_enter Try.func9, Try.ntmps9
  go_wp2
  go_loopw [5] (fun i wr => ∃ k : Nat, k ≤ l.length ∧ i = .int .i64 k ∧ Below w.heap.size w wr) (fun i _ => l.length - (intOf i).toNat)
  case atStart => exact ⟨0, by omega, rfl, Below.refl _ _⟩
  case round =>
    obtain ⟨k, hk, rfl, hb⟩ := hrel
    by_cases h : k < l.length
    · obtain ⟨b, off, rfl, hlt, ho⟩ := HA.out k h
      obtain ⟨b2, off2, rfl, hlt2, ho2⟩ := HC.out k h
      obtain ⟨o, hoo⟩ : ∃ o, l[k] = o := ⟨_, rfl⟩
      rw [hoo] at ho ho2
      obtain ⟨c0, c1, c2, c3, c4, c5, c6⟩ := ho.block (w' := wr) (hb.block b hlt)
      obtain ⟨d0, d1, d2, d3, d4, d5, d6⟩ := ho2.block (w' := wr) (hb.block b2 hlt2)
      have hneq := neq_ops o o
      rw [same_true rfl] at hneq
      unfold OpV.agg at hneq
      have hi0 : (0 : Int) ≤ (k : Int) := by omega
      have hi1 : (k : Int) < (l.length : Int) := by omega
      clear ho ho2 hoo
      go_wp2
      go_region_held3 (fun w' => w'.cell? ⟨b, off + k * 7, none⟩ = some (.int .i64 o.time) ∧ w'.cell? ⟨b, off + k * 7 + 1, none⟩ = some (.int .i64 o.repl) ∧ w'.cell? ⟨b, off + k * 7 + 2, none⟩ = some (.int .i64 o.kind) ∧ w'.cell? ⟨b, off + k * 7 + 3, none⟩ = some (.int .i64 o.node) ∧ w'.cell? ⟨b, off + k * 7 + 4, none⟩ = some (.int .i64 o.parent) ∧ w'.cell? ⟨b, off + k * 7 + 5, none⟩ = some (.string o.name) ∧ w'.cell? ⟨b, off + k * 7 + 6, none⟩ = some (.string o.value) ∧ w'.cell? ⟨b2, off2 + k * 7, none⟩ = some (.int .i64 o.time) ∧ w'.cell? ⟨b2, off2 + k * 7 + 1, none⟩ = some (.int .i64 o.repl) ∧ w'.cell? ⟨b2, off2 + k * 7 + 2, none⟩ = some (.int .i64 o.kind) ∧ w'.cell? ⟨b2, off2 + k * 7 + 3, none⟩ = some (.int .i64 o.node) ∧ w'.cell? ⟨b2, off2 + k * 7 + 4, none⟩ = some (.int .i64 o.parent) ∧ w'.cell? ⟨b2, off2 + k * 7 + 5, none⟩ = some (.string o.name) ∧ w'.cell? ⟨b2, off2 + k * 7 + 6, none⟩ = some (.string o.value)) (exact ⟨c0, c1, c2, c3, c4, c5, c6, d0, d1, d2, d3, d4, d5, d6⟩) (fail)
      clear hneq c0 c1 c2 c3 c4 c5 c6 d0 d1 d2 d3 d4 d5 d6
      go_wp2
      go_roundw
      case rel => exact ⟨k + 1, by omega, by go_num, hb.drew⟩
      case measure => simp [intOf]; omega
    · go_wp2
      go_ret
      exact ⟨rfl, hb⟩
end Go.Proofs.Ytlphcbgeagmopaa.OpR
namespace Go.Proofs.Ytlphcbgeagmopaa.OpR
open Go.ChangeShapes Go.WideShapes Go.ChangeAt Go.RowKit
set_option linter.unusedVariables false

set_option maxRecDepth 100000 in
set_option maxHeartbeats 400000 in
theorem sRead_bad (t : ByteArray) (w : World) (hm : t.size ≤ maxLen) (hbad : ¬ (readRes t).2.2 = 0) :
    Calls Try.prog 16 #[.string t] w fun e w' => e = .returned (.agg #[.slice none 0 0, .int .i64 0, .int .i64 (readRes t).2.2]) ∧ Below w.heap.size w w' := by
  have HBad := Hid.mk hbad
  clear hbad
  unfold maxLen at hm
  by_cases h8 : 8000 < t.size
  · have HF : Hid (readRes t = ([], 0, 2)) := ⟨read_far h8⟩
    go_enter Try.func16, Try.ntmps16
    go_wp2
    refine bodyPost_ret (v := .agg #[.slice none 0 0, .int .i64 0, .int .i64 2]) (by simp [results, Try.results16, go_sem]) rfl ⟨by rw [HF.out], ?_⟩
    exact (Below.refl _ _).alloc (Nat.le_refl _) _
  · obtain ⟨X, hX⟩ : ∃ X, X = (w.alloc (.cells #[.slice none 0 0, .int .i64 0, .int .i64 0] 27)).alloc (.cells #[.string t, .int .i64 0, .bool false] 89) := ⟨_, rfl⟩
    have hs : X.heap.size = w.heap.size + 2 := by rw [hX]; simp
    have hr : SRd X (w.heap.size + 1) t (some 0) := by
      refine ⟨0, false, ?_, by omega, rfl⟩
      rw [hX]
      have h := heap_alloc_new (w.alloc (.cells #[.slice none 0 0, .int .i64 0, .int .i64 0] 27)) (.cells #[.string t, .int .i64 0, .bool false] 89)
      simpa using h
    have h1 := sRdOps t (w.heap.size + 1) X (by omega) hr
    have hb0 : Below w.heap.size w X := by rw [hX]; exact ((Below.refl _ _).alloc (Nat.le_refl _) _).alloc (by simp) _
    have hq0 : X.heap[w.heap.size]? = some (.cells #[.slice none 0 0, .int .i64 0, .int .i64 0] 27 (0, 0)) := by rw [hX]; exact (Below.heap_alloc _ _ _ (by simp)).trans (heap_alloc_new w _)
    have HX := Hid.mk hX
    have H1 := Hid.mk h1
    have Hq0 := Hid.mk hq0
    clear hr h1 hX hq0
    go_enter Try.func16, Try.ntmps16
    go_wp2_with fail
    rw [← HX.out]
    refine H1.out.mono ?_
    rintro e w1 ⟨v, rfl, hO, hr1, hg1⟩
    obtain ⟨L, hL⟩ : ∃ L, L = (rAll t).1 := ⟨_, rfl⟩
    rw [← hL] at hO
    have hLl : L.length ≤ 8001 := by rw [hL]; have := rAll_len t; omega
    have HLe := Hid.mk hL
    have hSz : Sized L := fun o ho => by rw [hL] at ho; have := rAll_sized t o ho; unfold maxLen; omega
    have HSz := Hid.mk hSz
    obtain ⟨g, cap, rfl, hgb, hglt, hcap, hcm, hat⟩ := hO.at
    have HO := Hid.mk hO
    have HAt := Hid.mk hat
    have hB1 : Below w.heap.size w w1 := hb0.grown hg1 hb0.size (fun j hj => by cases hj; omega)
    have hres : w1.heap[w.heap.size]? = some (.cells #[.slice none 0 0, .int .i64 0, .int .i64 0] 27 (0, 0)) := (hg1.block w.heap.size (by omega) (fun e => by have := Option.some.inj e; omega)).trans Hq0.out
    have HRs := Hid.mk hres
    obtain ⟨r0, r1, r2, f0, f1, f2, hrlt⟩ := cells3 hres
    obtain ⟨a, bad, hl, ha, hst⟩ := hr1
    obtain ⟨c0, c1, c2, y0, y1, y2⟩ := cellsR hl
    have HSt := Hid.mk hst
    have H8 := Hid.mk h8
    clear hL hO hat hres hl hst hg1 H1 Hq0 HX hSz
    have hno : (¬ (endSt t = some t.size ∧ opsRight L = true)) → readRes t = ([], 0, 3) := fun hh => read_no H8.out (fun e => hh (by rw [HLe.out]; exact (read_end (by have := H8.out; omega)).2 e))
    have HNo := Hid.mk hno
    clear hno
    cases bad
    · have hs : endSt t = some a := HSt.out
      by_cases hat : a = t.size
      · subst hat
        have h2 := fun W (hW : Below w1.heap.size w1 W) => sOps_any L (some ⟨g, 0, none⟩) cap W (by unfold maxLen; omega) (HAt.out.stays hW) HSz.out
        have Hs := Hid.mk hs
        clear hs
        cases hor : opsRight L
        · rw [hor] at h2
          have HF : Hid (readRes t = ([], 0, 3)) := ⟨HNo.out (fun hh => by rw [hor] at hh; cases hh.2)⟩
          clear hor
          go_wp2_with (first | (go_at_call 13; refine (h2 _ (Below.refl _ _)).mono ?_; rintro e w2 ⟨rfl, hb2⟩; have hB2 := hB1.trans (hb2.mono hB1.size); clear r0 r1 r2 f0 f1 f2; obtain ⟨r0, r1, r2, f0, f1, f2, hrlt2⟩ := cells3 ((hb2.block w.heap.size hrlt).trans HRs.out)))
          refine bodyPost_ret (v := .agg #[.slice none 0 0, .int .i64 0, .int .i64 3]) (by simp [results, Try.results16, go_sem, r0, r1, r2]) rfl ⟨by rw [HF.out], ?_⟩
          exact ((hB2.setCell (Nat.le_refl _) _).setCell (Nat.le_refl _) _).setCell (Nat.le_refl _) _
        · exact absurd (by
            have e := (read_end (t := t) (by have := H8.out; omega)).1 ⟨Hs.out, by rw [← HLe.out]; exact hor⟩
            rw [read_yes H8.out e]) HBad.out
      · have HF : Hid (readRes t = ([], 0, 3)) := ⟨HNo.out (fun hh => by rw [hs] at hh; exact hat (Option.some.inj hh.1))⟩
        have hne : ¬ ((a : Int) = (t.size : Int)) := by omega
        clear hs
        go_wp2
        refine bodyPost_ret (v := .agg #[.slice none 0 0, .int .i64 0, .int .i64 3]) (by simp [results, Try.results16, go_sem, r0, r1, r2]) rfl ⟨by rw [HF.out], ?_⟩
        exact ((hB1.setCell (Nat.le_refl _) _).setCell (Nat.le_refl _) _).setCell (Nat.le_refl _) _
    · have hs : endSt t = none := HSt.out
      have HF : Hid (readRes t = ([], 0, 3)) := ⟨HNo.out (fun hh => by rw [hs] at hh; cases hh.1)⟩
      clear hs
      go_wp2
      refine bodyPost_ret (v := .agg #[.slice none 0 0, .int .i64 0, .int .i64 3]) (by simp [results, Try.results16, go_sem, r0, r1, r2]) rfl ⟨by rw [HF.out], ?_⟩
      exact ((hB1.setCell (Nat.le_refl _) _).setCell (Nat.le_refl _) _).setCell (Nat.le_refl _) _
end Go.Proofs.Ytlphcbgeagmopaa.OpR
namespace Go.Proofs.Ytlphcbgeagmopaa.OpR
open Go.ChangeShapes Go.WideShapes Go.ChangeAt Go.RowKit
set_option linter.unusedVariables false
/-- The worlds of a class. -/
structure ClsW (S : World → Prop) where
  wd : World
  ok : S wd
theorem region_class {ι : Type} (f : ι → World) {P : Program} {id : Nat} {Q : Exit → Act → World → Prop} {a : Act} {w : World} {l : List Oper} (hm : P.follows .mixedOrders = true) (hB : Region.lexB .any l.toArray = true) (i0 : ι) (h0 : f i0 = w.drew)
    (h : wpQuiet P l.toArray (fun w' => ∃ n, w' = f n) (fun a' => ∀ w', (∃ n, w' = f n) → Q .normal a' w') l a) : (Code.region id l.toArray true).wp P Q a w :=
  wp_region_quiet (C := fun w' => ∃ n, w' = f n) hm hB ⟨i0, h0.symm⟩ (by simpa using h)
end Go.Proofs.Ytlphcbgeagmopaa.OpR
namespace Go.Proofs.Ytlphcbgeagmopaa.OpR
open Go.ChangeShapes Go.WideShapes Go.ChangeAt Go.RowKit Go.ChangeMaps
set_option linter.unusedVariables false

/-- A list that lies. -/
structure LV (W : World) (a : Option Addr) (c : Nat) (l : List OpV) : Prop where
  ops : OpsAt W a l
  cap : l.length ≤ c
theorem LV.step {W W' : World} {a : Option Addr} {c : Nat} {l : List OpV} (h : LV W a c l) (hb : Below W.heap.size W W') : LV W' a c l := ⟨h.ops.stays hb, h.cap⟩
/-- A variable that holds an answer of ops. -/
structure AnsV (W : World) (B : Nat) (a : Option Addr) (c : Nat) (l : List OpV) (m k : Int) : Prop where
  box : W.heap[B]? = some (.cells #[.slice a l.length c, .int .i64 m, .int .i64 k] 27 (0, 0))
  lv : LV W a c l
theorem AnsV.lt {W : World} {B : Nat} {a : Option Addr} {c : Nat} {l : List OpV} {m k : Int} (h : AnsV W B a c l m k) : B < W.heap.size := (Array.getElem?_eq_some_iff.1 h.box).1
theorem AnsV.step {W W' : World} {B : Nat} {a : Option Addr} {c : Nat} {l : List OpV} {m k : Int} (h : AnsV W B a c l m k) (hb : Below W.heap.size W W') : AnsV W' B a c l m k := ⟨(hb.block B h.lt).trans h.box, h.lv.step hb⟩
theorem AnsV.cells {W : World} {B : Nat} {a : Option Addr} {c : Nat} {l : List OpV} {m k : Int} (h : AnsV W B a c l m k) : W.cell? ⟨B, 0, none⟩ = some (.slice a l.length c) ∧ W.cell? ⟨B, 1, none⟩ = some (.int .i64 m) ∧ W.cell? ⟨B, 2, none⟩ = some (.int .i64 k) := by
  have e := h.box
  refine ⟨?_, ?_, ?_⟩ <;> simp [World.cell?, e]
theorem AnsV.new {W : World} {a : Option Addr} {c : Nat} {l : List OpV} (h : LV W a c l) (m k : Int) : AnsV (W.alloc (.cells #[.slice a l.length c, .int .i64 m, .int .i64 k] 27)) W.heap.size a c l m k :=
  ⟨heap_alloc_new W _, h.step ((Below.refl _ _).alloc (Nat.le_refl _) _)⟩
theorem out_in {w w' : World} {e : Ending} {r : List OpV × Int × Int} {l : List OpV} {m k : Int} (h : OutIn w w' e r) (hr : r = (l, m, k)) : ∃ a c, e = .returned (.agg #[.slice a l.length c, .int .i64 m, .int .i64 k]) ∧ LV w' a c l ∧ Below w.heap.size w w' := by
  subst hr
  obtain ⟨v, he, h1, h2⟩ := h
  rcases h1 with ⟨g, rfl, _, hi⟩ | ⟨rfl, h0⟩
  · exact ⟨_, _, he, ⟨hi.opsAt, Nat.le_refl _⟩, h2⟩
  · simp only at h0
    subst h0
    exact ⟨none, 0, he, ⟨fun j hj => absurd hj (by simp), Nat.le_refl _⟩, h2⟩
theorem out_at {w w' : World} {e : Ending} {r : List OpV × Int × Int} {l : List OpV} {m k : Int} (h : OutAt w w' e r) (hr : r = (l, m, k)) : ∃ a c, e = .returned (.agg #[.slice a l.length c, .int .i64 m, .int .i64 k]) ∧ LV w' a c l ∧ Below w.heap.size w w' := by
  subst hr
  obtain ⟨v, he, h1, h2⟩ := h
  obtain ⟨a, c, rfl, hc, ha⟩ := h1.at
  exact ⟨a, c, he, ⟨ha, hc⟩, h2⟩
theorem sz8_sized {l : List OpV} (h : OpSz8 l) : Sized l := fun o ho => by have := h o ho; unfold maxLen; omega
theorem log_sized {l m : List OpV} {x : List OpV} {j k : Int} (h : logRes l m = (x, j, k)) : Sized x ∧ x.length ≤ 150 := by
  by_cases h0 : k = 0
  · obtain ⟨hI, _⟩ := log_ok h.symm h0
    refine ⟨fun o ho => ?_, hI.told.2.1⟩
    obtain ⟨i, hi, rfl⟩ := List.getElem_of_mem ho
    have := right_sizes (o := x[i]) (hI.told.1 i hi)
    unfold maxLen; omega
  · have e := log_bad h.symm h0
    simp only at e
    subst e
    exact ⟨fun o ho => (by cases ho), by simp⟩
theorem read_sized {t : ByteArray} {x : List OpV} {j k : Int} (h : readRes t = (x, j, k)) (ht : t.size ≤ 8001) : Sized x ∧ x.length ≤ 8002 := by
  unfold readRes at h
  split at h
  · obtain ⟨rfl, _⟩ := Prod.mk.inj h
    exact ⟨fun o ho => (by cases ho), by simp⟩
  · split at h
    · obtain ⟨rfl, _⟩ := Prod.mk.inj h
      refine ⟨fun o ho => by have := rAll_sized t o ho; unfold maxLen; omega, ?_⟩
      have := rAll_len t
      omega
    · obtain ⟨rfl, _⟩ := Prod.mk.inj h
      exact ⟨fun o ho => (by cases ho), by simp⟩
theorem str_isEmpty {t : ByteArray} (h : t = ByteArray.empty) : t.toList.isEmpty = true := by subst h; rw [ByteArray.toList_eq]; rfl
theorem str_notEmpty {t : ByteArray} (h : ¬ t = ByteArray.empty) : t.toList.isEmpty = false := by
  rw [ByteArray.toList_eq]
  cases he : t.data.toList with
  | nil => exact absurd (ByteArray.ext (Array.toList_inj.1 (by rw [he]; rfl))) h
  | cons a b => rfl

/-- What the law keeps of its variables, at the reading. -/
structure KB (w W : World) (la : Option Addr) (lc : Nat) (l : List OpV) (ma : Option Addr) (mc : Nat) (m : List OpV) (Bx : Nat) (xa : Option Addr) (xc : Nat) (xs : List OpV) (xm xk : Int) (By : Nat) (ya : Option Addr) (yc : Nat) (ys : List OpV) (ym yk : Int) : Prop where
  below : Below w.heap.size w W
  l : LV W la lc l
  m : LV W ma mc m
  x : AnsV W Bx xa xc xs xm xk
  y : AnsV W By ya yc ys ym yk
theorem KB.step {w W W' : World} {la : Option Addr} {lc : Nat} {l : List OpV} {ma : Option Addr} {mc : Nat} {m : List OpV} {Bx : Nat} {xa : Option Addr} {xc : Nat} {xs : List OpV} {xm xk : Int} {By : Nat} {ya : Option Addr} {yc : Nat} {ys : List OpV} {ym yk : Int} (h : KB w W la lc l ma mc m Bx xa xc xs xm xk By ya yc ys ym yk) (hb : Below W.heap.size W W') : KB w W' la lc l ma mc m Bx xa xc xs xm xk By ya yc ys ym yk :=
  ⟨h.below.trans (hb.mono h.below.size), h.l.step hb, h.m.step hb, h.x.step hb, h.y.step hb⟩

theorem field_out (v0 v1 v2 : Value) (w : World) : (Instr.field 27 (.agg #[v0, v1, v2]) 0).run Try.prog w = .ok v0 w ∧ (Instr.field 27 (.agg #[v0, v1, v2]) 1).run Try.prog w = .ok v1 w ∧ (Instr.field 27 (.agg #[v0, v1, v2]) 2).run Try.prog w = .ok v2 w := ⟨by kernel_rfl, by kernel_rfl, by kernel_rfl⟩
set_option maxRecDepth 100000 in
set_option maxHeartbeats 8000000 in
theorem law_ops (w : World) (ao1 : Option Addr) (len1 cap1 : Nat) (ao2 : Option Addr) (len2 cap2 : Nat) (hc1 : SrcR.Code w ao1 len1) (hc2 : SrcR.Code w ao2 len2) (hB1 : ∀ a, ao1 = some a → a.block < w.heap.size) (hB2 : ∀ a, ao2 = some a → a.block < w.heap.size) :
    Calls Try.prog 3 #[.slice ao1 len1 cap1, .slice ao2 len2 cap2] w fun e w' => e = .returned (.bool true) ∧ Below w.heap.size w w' := by
  have HC2 := Hid.mk hc2
  have hl1 := hc1.1
  have hl2 := hc2.1
  have HB2 := Hid.mk hB2
  have hd := drawLogAdd_any w ao1 len1 cap1 hc1 hB1
  clear hc1 hc2 hB1 hB2
  have hm8 : maxLen = 9223372036854775807 := rfl
  have hf0 := fun v0 v1 v2 W => (field_out v0 v1 v2 W).1
  have hf1 := fun v0 v1 v2 W => (field_out v0 v1 v2 W).2.1
  have hf2 := fun v0 v1 v2 W => (field_out v0 v1 v2 W).2.2
  go_enter Try.func3, Try.ntmps3
  go_wp2_with fail
  refine hd.mono ?_
  intro e w1 h
  obtain ⟨v, u, l, m, he, hl, hm, hls, hms, hv, hu, hb1⟩ := h
  subst he
  obtain ⟨la, lc, rfl, hlc, hla⟩ := hv.at
  obtain ⟨gm, mc, rfl, hg1, hg2, hmc, hmm, hma⟩ := hu.at
  have HSl := Hid.mk (sz8_sized hls)
  have HSm := Hid.mk (sz8_sized hms)
  have HL := Hid.mk (LV.mk hla hlc)
  have HM := Hid.mk (LV.mk hma hmc)
  have HB := Hid.mk hb1
  obtain ⟨ma, hmaE⟩ : ∃ ma, ma = some (⟨gm, 0, none⟩ : Addr) := ⟨_, rfl⟩
  rw [← hmaE] at HM ⊢
  clear hv hu hls hms hd hla hma hg1 hg2 hmm hmaE
  obtain ⟨xs, xm, xk, hr⟩ : ∃ xs xm xk, logRes l m = (xs, xm, xk) := ⟨_, _, _, rfl⟩
  obtain ⟨hxsz, hx150⟩ := log_sized hr
  have HR := Hid.mk hr
  have HSx := Hid.mk hxsz
  clear hr hxsz
  go_wp2_with fail
  refine (iLogAdd_any l m la ma lc mc w1 (by omega) (by omega) HL.out.cap HM.out.cap HL.out.ops HM.out.ops HSl.out HSm.out).mono ?_
  intro e w2 h
  obtain ⟨xa, xc, he, h9, hb⟩ := out_in h HR.out
  subst he
  replace HL := Hid.mk (HL.out.step hb)
  replace HM := Hid.mk (HM.out.step hb)
  replace HB := Hid.mk (HB.out.trans (hb.mono HB.out.size))
  clear h hb
  have hba : Below w2.heap.size w2 (w2.alloc (.cells #[.slice xa xs.length xc, .int .i64 xm, .int .i64 xk] 27)) := (Below.refl _ _).alloc (Nat.le_refl _) _
  have HX := Hid.mk (AnsV.new h9 xm xk)
  obtain ⟨X2, hX⟩ : ∃ X, X = w2.alloc (.cells #[.slice xa xs.length xc, .int .i64 xm, .int .i64 xk] 27) := ⟨_, rfl⟩
  obtain ⟨Bx, hBB⟩ : ∃ B, B = w2.heap.size := ⟨_, rfl⟩
  clear h9
  go_wp2_with fail
  rw [← hX] at hba HX ⊢
  rw [← hBB] at HX
  try rw [← hBB]
  replace HL := Hid.mk (HL.out.step hba)
  replace HM := Hid.mk (HM.out.step hba)
  replace HB := Hid.mk (HB.out.trans (hba.mono HB.out.size))
  clear hX hBB hba
  go_wp2_with fail
  refine (sLog_any l m la ma lc mc X2 (by omega) (by omega) HL.out.ops HM.out.ops HSl.out HSm.out).mono ?_
  intro e w3 h
  obtain ⟨wa, wc, he, h9, hb⟩ := out_at h HR.out
  subst he
  replace HL := Hid.mk (HL.out.step hb)
  replace HM := Hid.mk (HM.out.step hb)
  replace HX := Hid.mk (HX.out.step hb)
  replace HB := Hid.mk (HB.out.trans (hb.mono HB.out.size))
  clear h hb
  obtain ⟨c0, c1, c2⟩ := HX.out.cells
  have hBx := HX.out.lt
  have hba : Below w3.heap.size w3 (w3.alloc (.cells #[.slice wa xs.length wc, .int .i64 xm, .int .i64 xk] 27)) := (Below.refl _ _).alloc (Nat.le_refl _) _
  have HW := Hid.mk (AnsV.new h9 xm xk)
  obtain ⟨X3, hX⟩ : ∃ X, X = w3.alloc (.cells #[.slice wa xs.length wc, .int .i64 xm, .int .i64 xk] 27) := ⟨_, rfl⟩
  obtain ⟨Bw, hBB⟩ : ∃ B, B = w3.heap.size := ⟨_, rfl⟩
  clear h9
  go_wp2_with fail
  rw [← hX] at hba HW ⊢
  rw [← hBB] at HW
  try rw [← hBB]
  replace HL := Hid.mk (HL.out.step hba)
  replace HM := Hid.mk (HM.out.step hba)
  replace HX := Hid.mk (HX.out.step hba)
  replace HB := Hid.mk (HB.out.trans (hba.mono HB.out.size))
  clear hX hBB hba
  clear c0 c1 c2 hBx
  refine (lwOps_same xs xa wa xc wc X3 (by omega) HX.out.lv.ops HW.out.lv.ops).mono ?_
  rintro e w4 ⟨rfl, hb⟩
  replace HL := Hid.mk (HL.out.step hb)
  replace HM := Hid.mk (HM.out.step hb)
  replace HX := Hid.mk (HX.out.step hb)
  replace HB := Hid.mk (HB.out.trans (hb.mono HB.out.size))
  clear hb HW
  obtain ⟨T, hT⟩ : ∃ T, T = opsBytes m := ⟨_, rfl⟩
  obtain ⟨b, hbR⟩ : ∃ b, b = opsRight m := ⟨_, rfl⟩
  have HT := Hid.mk hT
  have HbR := Hid.mk hbR
  clear hT hbR
  go_wp2_with fail
  refine (iOpsBytes_any m ma mc w4 (by omega) HM.out.cap HM.out.ops HSm.out).mono ?_
  rintro e w5 ⟨he, hb⟩
  rw [← HT.out] at he
  subst he
  replace HL := Hid.mk (HL.out.step hb)
  replace HM := Hid.mk (HM.out.step hb)
  replace HX := Hid.mk (HX.out.step hb)
  replace HB := Hid.mk (HB.out.trans (hb.mono HB.out.size))
  clear hb
  by_cases hT0 : T = ByteArray.empty
  · have hte := str_isEmpty hT0
    clear hT0
    go_wp2_with fail
    refine (sOpsBytes_any m ma mc w5 (by omega) HM.out.ops HSm.out).mono ?_
    rintro e w6 ⟨he, hb⟩
    rw [← HT.out] at he
    subst he
    replace HL := Hid.mk (HL.out.step hb)
    replace HM := Hid.mk (HM.out.step hb)
    replace HX := Hid.mk (HX.out.step hb)
    replace HB := Hid.mk (HB.out.trans (hb.mono HB.out.size))
    clear hb
    go_wp2_with fail
    refine (iOps_any m ma mc w6 (by omega) HM.out.cap HM.out.ops HSm.out).mono ?_
    rintro e w7 ⟨he, hb⟩
    rw [← HbR.out] at he
    subst he
    replace HL := Hid.mk (HL.out.step hb)
    replace HM := Hid.mk (HM.out.step hb)
    replace HX := Hid.mk (HX.out.step hb)
    replace HB := Hid.mk (HB.out.trans (hb.mono HB.out.size))
    clear hb
    go_wp2_with fail
    refine (sOps_any m ma mc w7 (by omega) HM.out.ops HSm.out).mono ?_
    rintro e w8 ⟨he, hb⟩
    rw [← HbR.out] at he
    subst he
    replace HL := Hid.mk (HL.out.step hb)
    replace HM := Hid.mk (HM.out.step hb)
    replace HX := Hid.mk (HX.out.step hb)
    replace HB := Hid.mk (HB.out.trans (hb.mono HB.out.size))
    clear hb
    go_wp2_with fail
    refine (drawOpsRead_any w8 ao2 len2 cap2 (HC2.out.below HB.out HB2.out) (fun a ha => Nat.lt_of_lt_of_le (HB2.out a ha) HB.out.size)).mono ?_
    rintro e r1 ⟨u, rfl, hu, hb⟩
    replace HL := Hid.mk (HL.out.step hb)
    replace HM := Hid.mk (HM.out.step hb)
    replace HX := Hid.mk (HX.out.step hb)
    replace HB := Hid.mk (HB.out.trans (hb.mono HB.out.size))
    clear hb
    obtain ⟨ys, ym, yk, hry⟩ : ∃ ys ym yk, readRes u = (ys, ym, yk) := ⟨_, _, _, rfl⟩
    obtain ⟨hysz, hyl⟩ := read_sized hry hu
    have HRy := Hid.mk hry
    have HSy := Hid.mk hysz
    have HBy : Hid (yk = 0 → opsBytes ys = u) := ⟨fun h => read_code hry.symm h⟩
    clear hry hysz
    go_wp2_with fail
    refine (iRead_any u r1 (by omega)).mono ?_
    intro e r2 h
    obtain ⟨ya, yc, he, h9, hb⟩ := out_at h HRy.out
    subst he
    replace HL := Hid.mk (HL.out.step hb)
    replace HM := Hid.mk (HM.out.step hb)
    replace HX := Hid.mk (HX.out.step hb)
    replace HB := Hid.mk (HB.out.trans (hb.mono HB.out.size))
    clear h hb
    have hba : Below r2.heap.size r2 (r2.alloc (.cells #[.slice ya ys.length yc, .int .i64 ym, .int .i64 yk] 27)) := (Below.refl _ _).alloc (Nat.le_refl _) _
    have HY := Hid.mk (AnsV.new h9 ym yk)
    obtain ⟨X4, hX⟩ : ∃ X, X = r2.alloc (.cells #[.slice ya ys.length yc, .int .i64 ym, .int .i64 yk] 27) := ⟨_, rfl⟩
    obtain ⟨By, hBB⟩ : ∃ B, B = r2.heap.size := ⟨_, rfl⟩
    clear h9
    go_wp2_with fail
    rw [← hX] at hba HY ⊢
    rw [← hBB] at HY
    try rw [← hBB]
    replace HL := Hid.mk (HL.out.step hba)
    replace HM := Hid.mk (HM.out.step hba)
    replace HX := Hid.mk (HX.out.step hba)
    replace HB := Hid.mk (HB.out.trans (hba.mono HB.out.size))
    clear hX hBB hba
    go_cut [110] from 16 (fun t9 wx => t9 = .bool false ∧ Below w.heap.size w wx ∧ LV wx la lc l ∧ LV wx ma mc m ∧ AnsV wx Bx xa xc xs xm xk)
    case first =>
      have hbd : Below X4.heap.size X4 X4.drew := (Below.refl _ _).drew
      replace HL := Hid.mk (HL.out.step hbd)
      replace HM := Hid.mk (HM.out.step hbd)
      replace HX := Hid.mk (HX.out.step hbd)
      replace HY := Hid.mk (HY.out.step hbd)
      replace HB := Hid.mk (HB.out.trans (hbd.mono HB.out.size))
      clear hbd
      obtain ⟨c0, c1, c2⟩ := HY.out.cells
      by_cases hyk : yk = 0
      · subst hyk
        have HU := Hid.mk (HBy.out rfl)
        have hd0 := And.intro c0 c2
        have hd1 := hd0
        have hd2 := hd0
        have hd3 := hd0
        have hd4 := hd0
        clear c0 c1 c2
        have N1 : Hid True := ⟨trivial⟩
        have N2 : Hid True := ⟨trivial⟩
        go_region_held3 (fun W => W.cell? ⟨By, 0, none⟩ = some (.slice ya ys.length yc) ∧ W.cell? ⟨By, 2, none⟩ = some (.int .i64 0)) (first | with_reducible exact hd0 | with_reducible exact hd1 | with_reducible exact hd2 | with_reducible exact hd3 | with_reducible exact hd4 | fail) (first | (go_at_call 16; clear N1; refine (sRead_any u _ (by omega)).mono ?_; intro e q1 h; obtain ⟨a7, c7, he, hl7, hb⟩ := out_at h HRy.out; subst he; replace HL := Hid.mk (HL.out.step hb); replace HM := Hid.mk (HM.out.step hb); replace HX := Hid.mk (HX.out.step hb); replace HY := Hid.mk (HY.out.step hb); replace HB := Hid.mk (HB.out.trans (hb.mono HB.out.size)); clear h hb hl7; clear hd1 hd2 hd3 hd4; obtain ⟨c0, c1, c2⟩ := HY.out.cells; have hd1 := And.intro c0 c2; have hd2 := hd1; have hd3 := hd1; have hd4 := hd1; clear c0 c1 c2) | (go_at_call 16; clear N2; refine (sRead_any u _ (by omega)).mono ?_; intro e q2 h; obtain ⟨a8, c8, he, hl8, hb⟩ := out_at h HRy.out; subst he; replace HL := Hid.mk (HL.out.step hb); replace HM := Hid.mk (HM.out.step hb); replace HX := Hid.mk (HX.out.step hb); replace HY := Hid.mk (HY.out.step hb); replace HB := Hid.mk (HB.out.trans (hb.mono HB.out.size)); have HL8 := Hid.mk hl8; clear h hb hl8; clear hd2 hd3 hd4; obtain ⟨c0, c1, c2⟩ := HY.out.cells; have hd2 := And.intro c0 c2; have hd3 := hd2; have hd4 := hd2; clear c0 c1 c2) | (go_at_call 9; refine (lwOps_same ys ya a8 yc c8 _ (by omega) HY.out.lv.ops HL8.out.ops).mono ?_; rintro e q3 ⟨rfl, hb⟩; replace HL := Hid.mk (HL.out.step hb); replace HM := Hid.mk (HM.out.step hb); replace HX := Hid.mk (HX.out.step hb); replace HY := Hid.mk (HY.out.step hb); replace HB := Hid.mk (HB.out.trans (hb.mono HB.out.size)); clear hb HL8; clear hd3 hd4; obtain ⟨c0, c1, c2⟩ := HY.out.cells; have hd3 := And.intro c0 c2; have hd4 := hd3; clear c0 c1 c2) | (go_at_call 10; refine (iOpsBytes_any ys ya yc _ (by omega) HY.out.lv.cap HY.out.lv.ops HSy.out).mono ?_; rintro e q4 ⟨he, hb⟩; rw [HU.out] at he; subst he; replace HL := Hid.mk (HL.out.step hb); replace HM := Hid.mk (HM.out.step hb); replace HX := Hid.mk (HX.out.step hb); replace HY := Hid.mk (HY.out.step hb); replace HB := Hid.mk (HB.out.trans (hb.mono HB.out.size)); clear hb; clear hd4; obtain ⟨c0, c1, c2⟩ := HY.out.cells; have hd4 := And.intro c0 c2; clear c0 c1 c2) | fail)
        all_goals (go_wp2_with fail)
        all_goals go_meet
        all_goals exact ⟨rfl, HB.out, HL.out, HM.out, HX.out⟩
      · have hyb : (yk == 0) = false := by simpa using hyk
        clear hyk
        have hbad : ¬ (readRes u).2.2 = 0 := by rw [HRy.out]; simpa using hyb
        have hrk : (readRes u).2.2 = yk := by rw [HRy.out]
        have HRd := Hid.mk (fun W => sRead_bad u W (by unfold maxLen; omega) hbad)
        rw [hrk] at HRd
        have hS1 : KB w X4.drew la lc l ma mc m Bx xa xc xs xm xk By ya yc ys ym yk := ⟨HB.out, HL.out, HM.out, HX.out, HY.out⟩
        have HSd := Hid.mk hS1
        haveI : Nonempty (ClsW fun W => KB w W la lc l ma mc m Bx xa xc xs xm xk By ya yc ys ym yk) := ⟨⟨_, hS1⟩⟩
        have X0 : ∀ q : (ClsW fun W => KB w W la lc l ma mc m Bx xa xc xs xm xk By ya yc ys ym yk), q.wd.cell? ⟨By, 2, none⟩ = some (.int .i64 yk) := fun q => q.ok.y.cells.2.2
        clear hS1 hbad hrk c0 c1 c2
        refine region_class (ι := (ClsW fun W => KB w W la lc l ma mc m Bx xa xc xs xm xk By ya yc ys ym yk)) ClsW.wd (by kernel_rfl) (by kernel_rfl) ⟨_, HSd.out⟩ rfl ?_
        repeat (go_big_quiet_step (first | (go_at_call 16; rename_i q; refine (HRd.out _).mono ?_; rintro e w4 ⟨rfl, hw4⟩; exact ⟨rfl, ⟨w4, q.ok.step hw4⟩, rfl⟩) | fail))
        refine wpQuiet_nil ?_
        rintro _ ⟨⟨w5, hV5⟩, rfl⟩
        clear X0
        have HV5 := Hid.mk hV5
        clear hV5
        go_wp2_with fail
        go_meet
        exact ⟨rfl, HV5.out.below, HV5.out.l, HV5.out.m, HV5.out.x⟩
    case rest =>
      clear HY HRy HSy HBy
      obtain ⟨rfl, hBn, hLn, hMn, hXn⟩ := hcut
      replace HB := Hid.mk hBn
      replace HL := Hid.mk hLn
      replace HM := Hid.mk hMn
      replace HX := Hid.mk hXn
      clear hBn hLn hMn hXn
      obtain ⟨c0, c1, c2⟩ := HX.out.cells
      by_cases hxk : xk = 0
      · subst hxk
        have hIx : LogIs l m xs := (log_ok HR.out.symm rfl).1
        have HIx := Hid.mk hIx
        clear hIx
        go_wp2_with fail
        refine (drawOpsRight_any wc ao2 len2 cap2 (HC2.out.below HB.out HB2.out) (fun a ha => Nat.lt_of_lt_of_le (HB2.out a ha) HB.out.size)).mono ?_
        intro e n1 h
        obtain ⟨v, n, he, hn, hns, hO, hb⟩ := h
        subst he
        replace HL := Hid.mk (HL.out.step hb)
        replace HM := Hid.mk (HM.out.step hb)
        replace HX := Hid.mk (HX.out.step hb)
        replace HB := Hid.mk (HB.out.trans (hb.mono HB.out.size))
        obtain ⟨gn, nc, rfl, h1, h2, hnc, hnm, hna⟩ := hO.at
        have HN := Hid.mk (LV.mk hna hnc)
        have HSn := Hid.mk (sz8_sized hns)
        obtain ⟨na, hnaE⟩ : ∃ na, na = some (⟨gn, 0, none⟩ : Addr) := ⟨_, rfl⟩
        rw [← hnaE] at HN ⊢
        clear hO hns hb hna h1 h2 hnm hnaE c0 c1 c2
        obtain ⟨al, am, ak, hra⟩ : ∃ al am ak, logRes xs n = (al, am, ak) := ⟨_, _, _, rfl⟩
        obtain ⟨hasz, ha150⟩ := log_sized hra
        have HRa2 := Hid.mk hra
        have HSa := Hid.mk hasz
        clear hra hasz
        obtain ⟨bl, bm, bk, hrb⟩ : ∃ bl bm bk, logRes l n = (bl, bm, bk) := ⟨_, _, _, rfl⟩
        obtain ⟨hbsz, hb150⟩ := log_sized hrb
        have HRb2 := Hid.mk hrb
        have HSb := Hid.mk hbsz
        clear hrb hbsz
        obtain ⟨c0, c1, c2⟩ := HX.out.cells
        go_wp2_with fail
        refine (iLogAdd_any xs n xa na xc nc n1 (by omega) (by omega) HX.out.lv.cap HN.out.cap HX.out.lv.ops HN.out.ops HSx.out HSn.out).mono ?_
        intro e n2 h
        obtain ⟨aa, ac, he, h9, hb⟩ := out_in h HRa2.out
        subst he
        replace HL := Hid.mk (HL.out.step hb)
        replace HM := Hid.mk (HM.out.step hb)
        replace HX := Hid.mk (HX.out.step hb)
        replace HN := Hid.mk (HN.out.step hb)
        replace HB := Hid.mk (HB.out.trans (hb.mono HB.out.size))
        clear h hb
        clear c0 c1 c2
        have hba : Below n2.heap.size n2 (n2.alloc (.cells #[.slice aa al.length ac, .int .i64 am, .int .i64 ak] 27)) := (Below.refl _ _).alloc (Nat.le_refl _) _
        have HA := Hid.mk (AnsV.new h9 am ak)
        obtain ⟨X5, hX⟩ : ∃ X, X = n2.alloc (.cells #[.slice aa al.length ac, .int .i64 am, .int .i64 ak] 27) := ⟨_, rfl⟩
        obtain ⟨Ba, hBB⟩ : ∃ B, B = n2.heap.size := ⟨_, rfl⟩
        clear h9
        go_wp2_with fail
        rw [← hX] at hba HA ⊢
        rw [← hBB] at HA
        try rw [← hBB]
        replace HL := Hid.mk (HL.out.step hba)
        replace HM := Hid.mk (HM.out.step hba)
        replace HX := Hid.mk (HX.out.step hba)
        replace HN := Hid.mk (HN.out.step hba)
        replace HB := Hid.mk (HB.out.trans (hba.mono HB.out.size))
        clear hX hBB hba
        go_wp2_with fail
        refine (iLogAdd_any l n la na lc nc X5 (by omega) (by omega) HL.out.cap HN.out.cap HL.out.ops HN.out.ops HSl.out HSn.out).mono ?_
        intro e n3 h
        obtain ⟨ba, bc, he, h9, hb⟩ := out_in h HRb2.out
        subst he
        replace HL := Hid.mk (HL.out.step hb)
        replace HM := Hid.mk (HM.out.step hb)
        replace HX := Hid.mk (HX.out.step hb)
        replace HN := Hid.mk (HN.out.step hb)
        replace HA := Hid.mk (HA.out.step hb)
        replace HB := Hid.mk (HB.out.trans (hb.mono HB.out.size))
        clear h hb
        obtain ⟨c0, c1, c2⟩ := HA.out.cells
        have hBa := HA.out.lt
        by_cases hak : ak = 0
        · subst hak
          by_cases hbk : bk = 0
          · subst hbk
            have hrc : logRes bl m = (al, (al.length : Int) - bl.length, 0) := log_order HIx.out (log_ok (r := (al, am, 0)) HRa2.out.symm rfl).1 (log_ok (r := (bl, bm, 0)) HRb2.out.symm rfl).1
            obtain ⟨cm, hcm⟩ : ∃ cm, cm = (al.length : Int) - bl.length := ⟨_, rfl⟩
            rw [← hcm] at hrc
            have HRc := Hid.mk hrc
            clear hrc hcm
            have hba : Below n3.heap.size n3 (n3.alloc (.cells #[.slice ba bl.length bc, .int .i64 bm, .int .i64 0] 27)) := (Below.refl _ _).alloc (Nat.le_refl _) _
            have HBv := Hid.mk (AnsV.new h9 bm 0)
            obtain ⟨X6, hX⟩ : ∃ X, X = n3.alloc (.cells #[.slice ba bl.length bc, .int .i64 bm, .int .i64 0] 27) := ⟨_, rfl⟩
            obtain ⟨Bb, hBB⟩ : ∃ B, B = n3.heap.size := ⟨_, rfl⟩
            clear h9
            go_wp2_with fail
            rw [← hX] at hba HBv ⊢
            rw [← hBB] at HBv
            try rw [← hBB]
            replace HL := Hid.mk (HL.out.step hba)
            replace HM := Hid.mk (HM.out.step hba)
            replace HX := Hid.mk (HX.out.step hba)
            replace HN := Hid.mk (HN.out.step hba)
            replace HA := Hid.mk (HA.out.step hba)
            replace HB := Hid.mk (HB.out.trans (hba.mono HB.out.size))
            clear hX hBB hba
            clear c0 c1 c2 hBa
            refine (iLogAdd_any bl m ba ma bc mc X6 (by omega) (by omega) HBv.out.lv.cap HM.out.cap HBv.out.lv.ops HM.out.ops HSb.out HSm.out).mono ?_
            intro e n4 h
            obtain ⟨ca, cc, he, h9, hb⟩ := out_in h HRc.out
            subst he
            replace HL := Hid.mk (HL.out.step hb)
            replace HM := Hid.mk (HM.out.step hb)
            replace HX := Hid.mk (HX.out.step hb)
            replace HN := Hid.mk (HN.out.step hb)
            replace HA := Hid.mk (HA.out.step hb)
            replace HBv := Hid.mk (HBv.out.step hb)
            replace HB := Hid.mk (HB.out.trans (hb.mono HB.out.size))
            clear h hb
            have hba : Below n4.heap.size n4 (n4.alloc (.cells #[.slice ca al.length cc, .int .i64 cm, .int .i64 0] 27)) := (Below.refl _ _).alloc (Nat.le_refl _) _
            have HCv := Hid.mk (AnsV.new h9 cm 0)
            obtain ⟨X7, hX⟩ : ∃ X, X = n4.alloc (.cells #[.slice ca al.length cc, .int .i64 cm, .int .i64 0] 27) := ⟨_, rfl⟩
            obtain ⟨Bc, hBB⟩ : ∃ B, B = n4.heap.size := ⟨_, rfl⟩
            clear h9
            go_wp2_with fail
            rw [← hX] at hba HCv ⊢
            rw [← hBB] at HCv
            try rw [← hBB]
            replace HL := Hid.mk (HL.out.step hba)
            replace HM := Hid.mk (HM.out.step hba)
            replace HX := Hid.mk (HX.out.step hba)
            replace HN := Hid.mk (HN.out.step hba)
            replace HA := Hid.mk (HA.out.step hba)
            replace HB := Hid.mk (HB.out.trans (hba.mono HB.out.size))
            clear hX hBB hba
            clear HBv HN
            have hbd : Below X7.heap.size X7 X7.drew := (Below.refl _ _).drew
            replace HL := Hid.mk (HL.out.step hbd)
            replace HM := Hid.mk (HM.out.step hbd)
            replace HX := Hid.mk (HX.out.step hbd)
            replace HA := Hid.mk (HA.out.step hbd)
            replace HCv := Hid.mk (HCv.out.step hbd)
            replace HB := Hid.mk (HB.out.trans (hbd.mono HB.out.size))
            clear hbd
            have hd0 := And.intro HX.out.cells.1 (And.intro HA.out.cells.1 (And.intro HCv.out.cells.1 HCv.out.cells.2.2))
            have hd1 := hd0
            have hd2 := hd0
            have hd3 := hd0
            have hd4 := hd0
            have HTw := Hid.mk (log_twice HIx.out)
            have N1 : Hid True := ⟨trivial⟩
            have N2 : Hid True := ⟨trivial⟩
            have N3 : Hid True := ⟨trivial⟩
            have N4 : Hid True := ⟨trivial⟩
            go_region_held3 (fun W => W.cell? ⟨Bx, 0, none⟩ = some (.slice xa xs.length xc) ∧ W.cell? ⟨Ba, 0, none⟩ = some (.slice aa al.length ac) ∧ W.cell? ⟨Bc, 0, none⟩ = some (.slice ca al.length cc) ∧ W.cell? ⟨Bc, 2, none⟩ = some (.int .i64 0)) (first | with_reducible exact hd0 | with_reducible exact hd1 | with_reducible exact hd2 | with_reducible exact hd3 | with_reducible exact hd4 | fail) (first | (go_at_call 9; clear N1; refine (lwOps_same al aa ca ac cc _ (by omega) HA.out.lv.ops HCv.out.lv.ops).mono ?_; rintro e q1 ⟨rfl, hb⟩; replace HL := Hid.mk (HL.out.step hb); replace HM := Hid.mk (HM.out.step hb); replace HX := Hid.mk (HX.out.step hb); replace HA := Hid.mk (HA.out.step hb); replace HCv := Hid.mk (HCv.out.step hb); replace HB := Hid.mk (HB.out.trans (hb.mono HB.out.size)); clear hb; clear hd1 hd2 hd3 hd4; have hd1 := And.intro HX.out.cells.1 (And.intro HA.out.cells.1 (And.intro HCv.out.cells.1 HCv.out.cells.2.2)); have hd2 := hd1; have hd3 := hd1; have hd4 := hd1) | (go_at_call 7; clear N2; refine (iLogAdd_any xs m xa ma xc mc _ (by omega) (by omega) HX.out.lv.cap HM.out.cap HX.out.lv.ops HM.out.ops HSx.out HSm.out).mono ?_; intro e q2 h; obtain ⟨a7, c7, he, hl7, hb⟩ := out_in h HTw.out; subst he; replace HL := Hid.mk (HL.out.step hb); replace HM := Hid.mk (HM.out.step hb); replace HX := Hid.mk (HX.out.step hb); replace HA := Hid.mk (HA.out.step hb); replace HCv := Hid.mk (HCv.out.step hb); replace HB := Hid.mk (HB.out.trans (hb.mono HB.out.size)); have HL7 := Hid.mk hl7; clear h hb hl7; clear hd2 hd3 hd4; have hd2 := And.intro HX.out.cells.1 (And.intro HA.out.cells.1 (And.intro HCv.out.cells.1 HCv.out.cells.2.2)); have hd3 := hd2; have hd4 := hd2) | (go_at_call 9; clear N3; refine (lwOps_same xs a7 xa c7 xc _ (by omega) HL7.out.ops HX.out.lv.ops).mono ?_; rintro e q3 ⟨rfl, hb⟩; replace HL := Hid.mk (HL.out.step hb); replace HM := Hid.mk (HM.out.step hb); replace HX := Hid.mk (HX.out.step hb); replace HA := Hid.mk (HA.out.step hb); replace HCv := Hid.mk (HCv.out.step hb); replace HB := Hid.mk (HB.out.trans (hb.mono HB.out.size)); clear hb; clear hd3 hd4; have hd3 := And.intro HX.out.cells.1 (And.intro HA.out.cells.1 (And.intro HCv.out.cells.1 HCv.out.cells.2.2)); have hd4 := hd3) | (go_at_call 7; clear N4; refine (iLogAdd_any xs m xa ma xc mc _ (by omega) (by omega) HX.out.lv.cap HM.out.cap HX.out.lv.ops HM.out.ops HSx.out HSm.out).mono ?_; intro e q4 h; obtain ⟨a9, c9, he, hl7, hb⟩ := out_in h HTw.out; subst he; replace HL := Hid.mk (HL.out.step hb); replace HM := Hid.mk (HM.out.step hb); replace HX := Hid.mk (HX.out.step hb); replace HA := Hid.mk (HA.out.step hb); replace HCv := Hid.mk (HCv.out.step hb); replace HB := Hid.mk (HB.out.trans (hb.mono HB.out.size)); have HL9 := Hid.mk hl7; clear h hb hl7; clear hd4; have hd4 := And.intro HX.out.cells.1 (And.intro HA.out.cells.1 (And.intro HCv.out.cells.1 HCv.out.cells.2.2))) | fail)
            all_goals (clear hd0 hd1 hd2 hd3 hd4; go_wp2; go_ret; exact ⟨rfl, HB.out⟩)
          · have hbb : (bk != 0) = true := by simpa using hbk
            clear hbk
            have hba : Below n3.heap.size n3 (n3.alloc (.cells #[.slice ba bl.length bc, .int .i64 bm, .int .i64 bk] 27)) := (Below.refl _ _).alloc (Nat.le_refl _) _
            have HBv := Hid.mk (AnsV.new h9 bm bk)
            obtain ⟨X6, hX⟩ : ∃ X, X = n3.alloc (.cells #[.slice ba bl.length bc, .int .i64 bm, .int .i64 bk] 27) := ⟨_, rfl⟩
            obtain ⟨Bb, hBB⟩ : ∃ B, B = n3.heap.size := ⟨_, rfl⟩
            clear h9
            go_wp2_with fail
            rw [← hX] at hba HBv ⊢
            rw [← hBB] at HBv
            try rw [← hBB]
            replace HL := Hid.mk (HL.out.step hba)
            replace HM := Hid.mk (HM.out.step hba)
            replace HX := Hid.mk (HX.out.step hba)
            replace HN := Hid.mk (HN.out.step hba)
            replace HA := Hid.mk (HA.out.step hba)
            replace HB := Hid.mk (HB.out.trans (hba.mono HB.out.size))
            clear hX hBB hba
            clear c0 c1 c2 hBa HBv HA HN
            have hbd : Below X6.heap.size X6 X6.drew := (Below.refl _ _).drew
            replace HL := Hid.mk (HL.out.step hbd)
            replace HM := Hid.mk (HM.out.step hbd)
            replace HX := Hid.mk (HX.out.step hbd)
            replace HB := Hid.mk (HB.out.trans (hbd.mono HB.out.size))
            clear hbd
            have hd0 := HX.out.cells.1
            have hd1 := hd0
            have hd2 := hd0
            have HTw := Hid.mk (log_twice HIx.out)
            go_region_held3 (fun W => W.cell? ⟨Bx, 0, none⟩ = some (.slice xa xs.length xc)) (first | with_reducible exact hd0 | with_reducible exact hd1 | with_reducible exact hd2 | fail) (first | (go_at_call 7; refine (iLogAdd_any xs m xa ma xc mc _ (by omega) (by omega) HX.out.lv.cap HM.out.cap HX.out.lv.ops HM.out.ops HSx.out HSm.out).mono ?_; intro e q1 h; obtain ⟨a7, c7, he, hl7, hb⟩ := out_in h HTw.out; subst he; replace HL := Hid.mk (HL.out.step hb); replace HM := Hid.mk (HM.out.step hb); replace HX := Hid.mk (HX.out.step hb); replace HB := Hid.mk (HB.out.trans (hb.mono HB.out.size)); have HL7 := Hid.mk hl7; clear h hb hl7 hd1 hd2; have hd1 := HX.out.cells.1; have hd2 := hd1) | (go_at_call 9; refine (lwOps_same xs a7 xa c7 xc _ (by omega) HL7.out.ops HX.out.lv.ops).mono ?_; rintro e q2 ⟨rfl, hb⟩; replace HL := Hid.mk (HL.out.step hb); replace HM := Hid.mk (HM.out.step hb); replace HX := Hid.mk (HX.out.step hb); replace HB := Hid.mk (HB.out.trans (hb.mono HB.out.size)); clear hb HL7 hd2; have hd2 := HX.out.cells.1) | fail)
            all_goals (clear hd0 hd1 hd2; go_wp2; go_ret; exact ⟨rfl, HB.out⟩)
        · have hab : (ak != 0) = true := by simpa using hak
          clear hak
          have hba : Below n3.heap.size n3 (n3.alloc (.cells #[.slice ba bl.length bc, .int .i64 bm, .int .i64 bk] 27)) := (Below.refl _ _).alloc (Nat.le_refl _) _
          have HBv := Hid.mk (AnsV.new h9 bm bk)
          obtain ⟨X6, hX⟩ : ∃ X, X = n3.alloc (.cells #[.slice ba bl.length bc, .int .i64 bm, .int .i64 bk] 27) := ⟨_, rfl⟩
          obtain ⟨Bb, hBB⟩ : ∃ B, B = n3.heap.size := ⟨_, rfl⟩
          clear h9
          go_wp2_with fail
          rw [← hX] at hba HBv ⊢
          rw [← hBB] at HBv
          try rw [← hBB]
          replace HL := Hid.mk (HL.out.step hba)
          replace HM := Hid.mk (HM.out.step hba)
          replace HX := Hid.mk (HX.out.step hba)
          replace HN := Hid.mk (HN.out.step hba)
          replace HA := Hid.mk (HA.out.step hba)
          replace HB := Hid.mk (HB.out.trans (hba.mono HB.out.size))
          clear hX hBB hba
          clear c0 c1 c2 hBa HBv HA HN
          have hbd : Below X6.heap.size X6 X6.drew := (Below.refl _ _).drew
          replace HL := Hid.mk (HL.out.step hbd)
          replace HM := Hid.mk (HM.out.step hbd)
          replace HX := Hid.mk (HX.out.step hbd)
          replace HB := Hid.mk (HB.out.trans (hbd.mono HB.out.size))
          clear hbd
          have hd0 := HX.out.cells.1
          have hd1 := hd0
          have hd2 := hd0
          have HTw := Hid.mk (log_twice HIx.out)
          go_region_held3 (fun W => W.cell? ⟨Bx, 0, none⟩ = some (.slice xa xs.length xc)) (first | with_reducible exact hd0 | with_reducible exact hd1 | with_reducible exact hd2 | fail) (first | (go_at_call 7; refine (iLogAdd_any xs m xa ma xc mc _ (by omega) (by omega) HX.out.lv.cap HM.out.cap HX.out.lv.ops HM.out.ops HSx.out HSm.out).mono ?_; intro e q1 h; obtain ⟨a7, c7, he, hl7, hb⟩ := out_in h HTw.out; subst he; replace HL := Hid.mk (HL.out.step hb); replace HM := Hid.mk (HM.out.step hb); replace HX := Hid.mk (HX.out.step hb); replace HB := Hid.mk (HB.out.trans (hb.mono HB.out.size)); have HL7 := Hid.mk hl7; clear h hb hl7 hd1 hd2; have hd1 := HX.out.cells.1; have hd2 := hd1) | (go_at_call 9; refine (lwOps_same xs a7 xa c7 xc _ (by omega) HL7.out.ops HX.out.lv.ops).mono ?_; rintro e q2 ⟨rfl, hb⟩; replace HL := Hid.mk (HL.out.step hb); replace HM := Hid.mk (HM.out.step hb); replace HX := Hid.mk (HX.out.step hb); replace HB := Hid.mk (HB.out.trans (hb.mono HB.out.size)); clear hb HL7 hd2; have hd2 := HX.out.cells.1) | fail)
          all_goals (clear hd0 hd1 hd2; go_wp2; go_ret; exact ⟨rfl, HB.out⟩)
      · have hx0 : xs = [] := log_bad (r := (xs, xm, xk)) HR.out.symm hxk
        subst hx0
        have hxb : (xk != 0) = true := by simpa using hxk
        clear hxk
        go_wp2
        go_ret
        exact ⟨rfl, HB.out⟩
  · have hte := str_notEmpty hT0
    have HRb := Hid.mk (show readRes T = (m, 0, 0) by rw [HT.out]; exact read_back (by rw [← HT.out]; exact hT0))
    clear hT0
    go_wp2_with fail
    refine (sOpsBytes_any m ma mc w5 (by omega) HM.out.ops HSm.out).mono ?_
    rintro e w6 ⟨he, hb⟩
    rw [← HT.out] at he
    subst he
    replace HL := Hid.mk (HL.out.step hb)
    replace HM := Hid.mk (HM.out.step hb)
    replace HX := Hid.mk (HX.out.step hb)
    replace HB := Hid.mk (HB.out.trans (hb.mono HB.out.size))
    clear hb
    go_wp2_with fail
    refine (iOps_any m ma mc w6 (by omega) HM.out.cap HM.out.ops HSm.out).mono ?_
    rintro e w7 ⟨he, hb⟩
    rw [← HbR.out] at he
    subst he
    replace HL := Hid.mk (HL.out.step hb)
    replace HM := Hid.mk (HM.out.step hb)
    replace HX := Hid.mk (HX.out.step hb)
    replace HB := Hid.mk (HB.out.trans (hb.mono HB.out.size))
    clear hb
    go_wp2_with fail
    refine (sOps_any m ma mc w7 (by omega) HM.out.ops HSm.out).mono ?_
    rintro e w8 ⟨he, hb⟩
    rw [← HbR.out] at he
    subst he
    replace HL := Hid.mk (HL.out.step hb)
    replace HM := Hid.mk (HM.out.step hb)
    replace HX := Hid.mk (HX.out.step hb)
    replace HB := Hid.mk (HB.out.trans (hb.mono HB.out.size))
    clear hb
    have hTz : T.size ≤ maxLen := by rw [HT.out]; have := bytes_size m; omega
    go_wp2_with fail
    refine (iRead_any T w8 hTz).mono ?_
    intro e w9 h
    obtain ⟨a7, c7, he, h9, hb⟩ := out_at h HRb.out
    subst he
    replace HL := Hid.mk (HL.out.step hb)
    replace HM := Hid.mk (HM.out.step hb)
    replace HX := Hid.mk (HX.out.step hb)
    replace HB := Hid.mk (HB.out.trans (hb.mono HB.out.size))
    clear h hb
    have HL7 := Hid.mk h9
    clear h9
    go_wp2_with fail
    refine (lwOps_same m a7 ma c7 mc w9 (by omega) HL7.out.ops HM.out.ops).mono ?_
    rintro e w10 ⟨rfl, hb⟩
    replace HL := Hid.mk (HL.out.step hb)
    replace HM := Hid.mk (HM.out.step hb)
    replace HX := Hid.mk (HX.out.step hb)
    replace HB := Hid.mk (HB.out.trans (hb.mono HB.out.size))
    clear hb HL7
    go_wp2_with fail
    refine (drawOpsRead_any w10 ao2 len2 cap2 (HC2.out.below HB.out HB2.out) (fun a ha => Nat.lt_of_lt_of_le (HB2.out a ha) HB.out.size)).mono ?_
    rintro e r1 ⟨u, rfl, hu, hb⟩
    replace HL := Hid.mk (HL.out.step hb)
    replace HM := Hid.mk (HM.out.step hb)
    replace HX := Hid.mk (HX.out.step hb)
    replace HB := Hid.mk (HB.out.trans (hb.mono HB.out.size))
    clear hb
    obtain ⟨ys, ym, yk, hry⟩ : ∃ ys ym yk, readRes u = (ys, ym, yk) := ⟨_, _, _, rfl⟩
    obtain ⟨hysz, hyl⟩ := read_sized hry hu
    have HRy := Hid.mk hry
    have HSy := Hid.mk hysz
    have HBy : Hid (yk = 0 → opsBytes ys = u) := ⟨fun h => read_code hry.symm h⟩
    clear hry hysz
    go_wp2_with fail
    refine (iRead_any u r1 (by omega)).mono ?_
    intro e r2 h
    obtain ⟨ya, yc, he, h9, hb⟩ := out_at h HRy.out
    subst he
    replace HL := Hid.mk (HL.out.step hb)
    replace HM := Hid.mk (HM.out.step hb)
    replace HX := Hid.mk (HX.out.step hb)
    replace HB := Hid.mk (HB.out.trans (hb.mono HB.out.size))
    clear h hb
    have hba : Below r2.heap.size r2 (r2.alloc (.cells #[.slice ya ys.length yc, .int .i64 ym, .int .i64 yk] 27)) := (Below.refl _ _).alloc (Nat.le_refl _) _
    have HY := Hid.mk (AnsV.new h9 ym yk)
    obtain ⟨X4, hX⟩ : ∃ X, X = r2.alloc (.cells #[.slice ya ys.length yc, .int .i64 ym, .int .i64 yk] 27) := ⟨_, rfl⟩
    obtain ⟨By, hBB⟩ : ∃ B, B = r2.heap.size := ⟨_, rfl⟩
    clear h9
    go_wp2_with fail
    rw [← hX] at hba HY ⊢
    rw [← hBB] at HY
    try rw [← hBB]
    replace HL := Hid.mk (HL.out.step hba)
    replace HM := Hid.mk (HM.out.step hba)
    replace HX := Hid.mk (HX.out.step hba)
    replace HB := Hid.mk (HB.out.trans (hba.mono HB.out.size))
    clear hX hBB hba
    go_cut [110] from 16 (fun t9 wx => t9 = .bool false ∧ Below w.heap.size w wx ∧ LV wx la lc l ∧ LV wx ma mc m ∧ AnsV wx Bx xa xc xs xm xk)
    case first =>
      have hbd : Below X4.heap.size X4 X4.drew := (Below.refl _ _).drew
      replace HL := Hid.mk (HL.out.step hbd)
      replace HM := Hid.mk (HM.out.step hbd)
      replace HX := Hid.mk (HX.out.step hbd)
      replace HY := Hid.mk (HY.out.step hbd)
      replace HB := Hid.mk (HB.out.trans (hbd.mono HB.out.size))
      clear hbd
      obtain ⟨c0, c1, c2⟩ := HY.out.cells
      by_cases hyk : yk = 0
      · subst hyk
        have HU := Hid.mk (HBy.out rfl)
        have hd0 := And.intro c0 c2
        have hd1 := hd0
        have hd2 := hd0
        have hd3 := hd0
        have hd4 := hd0
        clear c0 c1 c2
        have N1 : Hid True := ⟨trivial⟩
        have N2 : Hid True := ⟨trivial⟩
        go_region_held3 (fun W => W.cell? ⟨By, 0, none⟩ = some (.slice ya ys.length yc) ∧ W.cell? ⟨By, 2, none⟩ = some (.int .i64 0)) (first | with_reducible exact hd0 | with_reducible exact hd1 | with_reducible exact hd2 | with_reducible exact hd3 | with_reducible exact hd4 | fail) (first | (go_at_call 16; clear N1; refine (sRead_any u _ (by omega)).mono ?_; intro e q1 h; obtain ⟨a7, c7, he, hl7, hb⟩ := out_at h HRy.out; subst he; replace HL := Hid.mk (HL.out.step hb); replace HM := Hid.mk (HM.out.step hb); replace HX := Hid.mk (HX.out.step hb); replace HY := Hid.mk (HY.out.step hb); replace HB := Hid.mk (HB.out.trans (hb.mono HB.out.size)); clear h hb hl7; clear hd1 hd2 hd3 hd4; obtain ⟨c0, c1, c2⟩ := HY.out.cells; have hd1 := And.intro c0 c2; have hd2 := hd1; have hd3 := hd1; have hd4 := hd1; clear c0 c1 c2) | (go_at_call 16; clear N2; refine (sRead_any u _ (by omega)).mono ?_; intro e q2 h; obtain ⟨a8, c8, he, hl8, hb⟩ := out_at h HRy.out; subst he; replace HL := Hid.mk (HL.out.step hb); replace HM := Hid.mk (HM.out.step hb); replace HX := Hid.mk (HX.out.step hb); replace HY := Hid.mk (HY.out.step hb); replace HB := Hid.mk (HB.out.trans (hb.mono HB.out.size)); have HL8 := Hid.mk hl8; clear h hb hl8; clear hd2 hd3 hd4; obtain ⟨c0, c1, c2⟩ := HY.out.cells; have hd2 := And.intro c0 c2; have hd3 := hd2; have hd4 := hd2; clear c0 c1 c2) | (go_at_call 9; refine (lwOps_same ys ya a8 yc c8 _ (by omega) HY.out.lv.ops HL8.out.ops).mono ?_; rintro e q3 ⟨rfl, hb⟩; replace HL := Hid.mk (HL.out.step hb); replace HM := Hid.mk (HM.out.step hb); replace HX := Hid.mk (HX.out.step hb); replace HY := Hid.mk (HY.out.step hb); replace HB := Hid.mk (HB.out.trans (hb.mono HB.out.size)); clear hb HL8; clear hd3 hd4; obtain ⟨c0, c1, c2⟩ := HY.out.cells; have hd3 := And.intro c0 c2; have hd4 := hd3; clear c0 c1 c2) | (go_at_call 10; refine (iOpsBytes_any ys ya yc _ (by omega) HY.out.lv.cap HY.out.lv.ops HSy.out).mono ?_; rintro e q4 ⟨he, hb⟩; rw [HU.out] at he; subst he; replace HL := Hid.mk (HL.out.step hb); replace HM := Hid.mk (HM.out.step hb); replace HX := Hid.mk (HX.out.step hb); replace HY := Hid.mk (HY.out.step hb); replace HB := Hid.mk (HB.out.trans (hb.mono HB.out.size)); clear hb; clear hd4; obtain ⟨c0, c1, c2⟩ := HY.out.cells; have hd4 := And.intro c0 c2; clear c0 c1 c2) | fail)
        all_goals (go_wp2_with fail)
        all_goals go_meet
        all_goals exact ⟨rfl, HB.out, HL.out, HM.out, HX.out⟩
      · have hyb : (yk == 0) = false := by simpa using hyk
        clear hyk
        have hbad : ¬ (readRes u).2.2 = 0 := by rw [HRy.out]; simpa using hyb
        have hrk : (readRes u).2.2 = yk := by rw [HRy.out]
        have HRd := Hid.mk (fun W => sRead_bad u W (by unfold maxLen; omega) hbad)
        rw [hrk] at HRd
        have hS1 : KB w X4.drew la lc l ma mc m Bx xa xc xs xm xk By ya yc ys ym yk := ⟨HB.out, HL.out, HM.out, HX.out, HY.out⟩
        have HSd := Hid.mk hS1
        haveI : Nonempty (ClsW fun W => KB w W la lc l ma mc m Bx xa xc xs xm xk By ya yc ys ym yk) := ⟨⟨_, hS1⟩⟩
        have X0 : ∀ q : (ClsW fun W => KB w W la lc l ma mc m Bx xa xc xs xm xk By ya yc ys ym yk), q.wd.cell? ⟨By, 2, none⟩ = some (.int .i64 yk) := fun q => q.ok.y.cells.2.2
        clear hS1 hbad hrk c0 c1 c2
        refine region_class (ι := (ClsW fun W => KB w W la lc l ma mc m Bx xa xc xs xm xk By ya yc ys ym yk)) ClsW.wd (by kernel_rfl) (by kernel_rfl) ⟨_, HSd.out⟩ rfl ?_
        repeat (go_big_quiet_step (first | (go_at_call 16; rename_i q; refine (HRd.out _).mono ?_; rintro e w4 ⟨rfl, hw4⟩; exact ⟨rfl, ⟨w4, q.ok.step hw4⟩, rfl⟩) | fail))
        refine wpQuiet_nil ?_
        rintro _ ⟨⟨w5, hV5⟩, rfl⟩
        clear X0
        have HV5 := Hid.mk hV5
        clear hV5
        go_wp2_with fail
        go_meet
        exact ⟨rfl, HV5.out.below, HV5.out.l, HV5.out.m, HV5.out.x⟩
    case rest =>
      clear HY HRy HSy HBy
      obtain ⟨rfl, hBn, hLn, hMn, hXn⟩ := hcut
      replace HB := Hid.mk hBn
      replace HL := Hid.mk hLn
      replace HM := Hid.mk hMn
      replace HX := Hid.mk hXn
      clear hBn hLn hMn hXn
      obtain ⟨c0, c1, c2⟩ := HX.out.cells
      by_cases hxk : xk = 0
      · subst hxk
        have hIx : LogIs l m xs := (log_ok HR.out.symm rfl).1
        have HIx := Hid.mk hIx
        clear hIx
        go_wp2_with fail
        refine (drawOpsRight_any wc ao2 len2 cap2 (HC2.out.below HB.out HB2.out) (fun a ha => Nat.lt_of_lt_of_le (HB2.out a ha) HB.out.size)).mono ?_
        intro e n1 h
        obtain ⟨v, n, he, hn, hns, hO, hb⟩ := h
        subst he
        replace HL := Hid.mk (HL.out.step hb)
        replace HM := Hid.mk (HM.out.step hb)
        replace HX := Hid.mk (HX.out.step hb)
        replace HB := Hid.mk (HB.out.trans (hb.mono HB.out.size))
        obtain ⟨gn, nc, rfl, h1, h2, hnc, hnm, hna⟩ := hO.at
        have HN := Hid.mk (LV.mk hna hnc)
        have HSn := Hid.mk (sz8_sized hns)
        obtain ⟨na, hnaE⟩ : ∃ na, na = some (⟨gn, 0, none⟩ : Addr) := ⟨_, rfl⟩
        rw [← hnaE] at HN ⊢
        clear hO hns hb hna h1 h2 hnm hnaE c0 c1 c2
        obtain ⟨al, am, ak, hra⟩ : ∃ al am ak, logRes xs n = (al, am, ak) := ⟨_, _, _, rfl⟩
        obtain ⟨hasz, ha150⟩ := log_sized hra
        have HRa2 := Hid.mk hra
        have HSa := Hid.mk hasz
        clear hra hasz
        obtain ⟨bl, bm, bk, hrb⟩ : ∃ bl bm bk, logRes l n = (bl, bm, bk) := ⟨_, _, _, rfl⟩
        obtain ⟨hbsz, hb150⟩ := log_sized hrb
        have HRb2 := Hid.mk hrb
        have HSb := Hid.mk hbsz
        clear hrb hbsz
        obtain ⟨c0, c1, c2⟩ := HX.out.cells
        go_wp2_with fail
        refine (iLogAdd_any xs n xa na xc nc n1 (by omega) (by omega) HX.out.lv.cap HN.out.cap HX.out.lv.ops HN.out.ops HSx.out HSn.out).mono ?_
        intro e n2 h
        obtain ⟨aa, ac, he, h9, hb⟩ := out_in h HRa2.out
        subst he
        replace HL := Hid.mk (HL.out.step hb)
        replace HM := Hid.mk (HM.out.step hb)
        replace HX := Hid.mk (HX.out.step hb)
        replace HN := Hid.mk (HN.out.step hb)
        replace HB := Hid.mk (HB.out.trans (hb.mono HB.out.size))
        clear h hb
        clear c0 c1 c2
        have hba : Below n2.heap.size n2 (n2.alloc (.cells #[.slice aa al.length ac, .int .i64 am, .int .i64 ak] 27)) := (Below.refl _ _).alloc (Nat.le_refl _) _
        have HA := Hid.mk (AnsV.new h9 am ak)
        obtain ⟨X5, hX⟩ : ∃ X, X = n2.alloc (.cells #[.slice aa al.length ac, .int .i64 am, .int .i64 ak] 27) := ⟨_, rfl⟩
        obtain ⟨Ba, hBB⟩ : ∃ B, B = n2.heap.size := ⟨_, rfl⟩
        clear h9
        go_wp2_with fail
        rw [← hX] at hba HA ⊢
        rw [← hBB] at HA
        try rw [← hBB]
        replace HL := Hid.mk (HL.out.step hba)
        replace HM := Hid.mk (HM.out.step hba)
        replace HX := Hid.mk (HX.out.step hba)
        replace HN := Hid.mk (HN.out.step hba)
        replace HB := Hid.mk (HB.out.trans (hba.mono HB.out.size))
        clear hX hBB hba
        go_wp2_with fail
        refine (iLogAdd_any l n la na lc nc X5 (by omega) (by omega) HL.out.cap HN.out.cap HL.out.ops HN.out.ops HSl.out HSn.out).mono ?_
        intro e n3 h
        obtain ⟨ba, bc, he, h9, hb⟩ := out_in h HRb2.out
        subst he
        replace HL := Hid.mk (HL.out.step hb)
        replace HM := Hid.mk (HM.out.step hb)
        replace HX := Hid.mk (HX.out.step hb)
        replace HN := Hid.mk (HN.out.step hb)
        replace HA := Hid.mk (HA.out.step hb)
        replace HB := Hid.mk (HB.out.trans (hb.mono HB.out.size))
        clear h hb
        obtain ⟨c0, c1, c2⟩ := HA.out.cells
        have hBa := HA.out.lt
        by_cases hak : ak = 0
        · subst hak
          by_cases hbk : bk = 0
          · subst hbk
            have hrc : logRes bl m = (al, (al.length : Int) - bl.length, 0) := log_order HIx.out (log_ok (r := (al, am, 0)) HRa2.out.symm rfl).1 (log_ok (r := (bl, bm, 0)) HRb2.out.symm rfl).1
            obtain ⟨cm, hcm⟩ : ∃ cm, cm = (al.length : Int) - bl.length := ⟨_, rfl⟩
            rw [← hcm] at hrc
            have HRc := Hid.mk hrc
            clear hrc hcm
            have hba : Below n3.heap.size n3 (n3.alloc (.cells #[.slice ba bl.length bc, .int .i64 bm, .int .i64 0] 27)) := (Below.refl _ _).alloc (Nat.le_refl _) _
            have HBv := Hid.mk (AnsV.new h9 bm 0)
            obtain ⟨X6, hX⟩ : ∃ X, X = n3.alloc (.cells #[.slice ba bl.length bc, .int .i64 bm, .int .i64 0] 27) := ⟨_, rfl⟩
            obtain ⟨Bb, hBB⟩ : ∃ B, B = n3.heap.size := ⟨_, rfl⟩
            clear h9
            go_wp2_with fail
            rw [← hX] at hba HBv ⊢
            rw [← hBB] at HBv
            try rw [← hBB]
            replace HL := Hid.mk (HL.out.step hba)
            replace HM := Hid.mk (HM.out.step hba)
            replace HX := Hid.mk (HX.out.step hba)
            replace HN := Hid.mk (HN.out.step hba)
            replace HA := Hid.mk (HA.out.step hba)
            replace HB := Hid.mk (HB.out.trans (hba.mono HB.out.size))
            clear hX hBB hba
            clear c0 c1 c2 hBa
            refine (iLogAdd_any bl m ba ma bc mc X6 (by omega) (by omega) HBv.out.lv.cap HM.out.cap HBv.out.lv.ops HM.out.ops HSb.out HSm.out).mono ?_
            intro e n4 h
            obtain ⟨ca, cc, he, h9, hb⟩ := out_in h HRc.out
            subst he
            replace HL := Hid.mk (HL.out.step hb)
            replace HM := Hid.mk (HM.out.step hb)
            replace HX := Hid.mk (HX.out.step hb)
            replace HN := Hid.mk (HN.out.step hb)
            replace HA := Hid.mk (HA.out.step hb)
            replace HBv := Hid.mk (HBv.out.step hb)
            replace HB := Hid.mk (HB.out.trans (hb.mono HB.out.size))
            clear h hb
            have hba : Below n4.heap.size n4 (n4.alloc (.cells #[.slice ca al.length cc, .int .i64 cm, .int .i64 0] 27)) := (Below.refl _ _).alloc (Nat.le_refl _) _
            have HCv := Hid.mk (AnsV.new h9 cm 0)
            obtain ⟨X7, hX⟩ : ∃ X, X = n4.alloc (.cells #[.slice ca al.length cc, .int .i64 cm, .int .i64 0] 27) := ⟨_, rfl⟩
            obtain ⟨Bc, hBB⟩ : ∃ B, B = n4.heap.size := ⟨_, rfl⟩
            clear h9
            go_wp2_with fail
            rw [← hX] at hba HCv ⊢
            rw [← hBB] at HCv
            try rw [← hBB]
            replace HL := Hid.mk (HL.out.step hba)
            replace HM := Hid.mk (HM.out.step hba)
            replace HX := Hid.mk (HX.out.step hba)
            replace HN := Hid.mk (HN.out.step hba)
            replace HA := Hid.mk (HA.out.step hba)
            replace HB := Hid.mk (HB.out.trans (hba.mono HB.out.size))
            clear hX hBB hba
            clear HBv HN
            have hbd : Below X7.heap.size X7 X7.drew := (Below.refl _ _).drew
            replace HL := Hid.mk (HL.out.step hbd)
            replace HM := Hid.mk (HM.out.step hbd)
            replace HX := Hid.mk (HX.out.step hbd)
            replace HA := Hid.mk (HA.out.step hbd)
            replace HCv := Hid.mk (HCv.out.step hbd)
            replace HB := Hid.mk (HB.out.trans (hbd.mono HB.out.size))
            clear hbd
            have hd0 := And.intro HX.out.cells.1 (And.intro HA.out.cells.1 (And.intro HCv.out.cells.1 HCv.out.cells.2.2))
            have hd1 := hd0
            have hd2 := hd0
            have hd3 := hd0
            have hd4 := hd0
            have HTw := Hid.mk (log_twice HIx.out)
            have N1 : Hid True := ⟨trivial⟩
            have N2 : Hid True := ⟨trivial⟩
            have N3 : Hid True := ⟨trivial⟩
            have N4 : Hid True := ⟨trivial⟩
            go_region_held3 (fun W => W.cell? ⟨Bx, 0, none⟩ = some (.slice xa xs.length xc) ∧ W.cell? ⟨Ba, 0, none⟩ = some (.slice aa al.length ac) ∧ W.cell? ⟨Bc, 0, none⟩ = some (.slice ca al.length cc) ∧ W.cell? ⟨Bc, 2, none⟩ = some (.int .i64 0)) (first | with_reducible exact hd0 | with_reducible exact hd1 | with_reducible exact hd2 | with_reducible exact hd3 | with_reducible exact hd4 | fail) (first | (go_at_call 9; clear N1; refine (lwOps_same al aa ca ac cc _ (by omega) HA.out.lv.ops HCv.out.lv.ops).mono ?_; rintro e q1 ⟨rfl, hb⟩; replace HL := Hid.mk (HL.out.step hb); replace HM := Hid.mk (HM.out.step hb); replace HX := Hid.mk (HX.out.step hb); replace HA := Hid.mk (HA.out.step hb); replace HCv := Hid.mk (HCv.out.step hb); replace HB := Hid.mk (HB.out.trans (hb.mono HB.out.size)); clear hb; clear hd1 hd2 hd3 hd4; have hd1 := And.intro HX.out.cells.1 (And.intro HA.out.cells.1 (And.intro HCv.out.cells.1 HCv.out.cells.2.2)); have hd2 := hd1; have hd3 := hd1; have hd4 := hd1) | (go_at_call 7; clear N2; refine (iLogAdd_any xs m xa ma xc mc _ (by omega) (by omega) HX.out.lv.cap HM.out.cap HX.out.lv.ops HM.out.ops HSx.out HSm.out).mono ?_; intro e q2 h; obtain ⟨a7, c7, he, hl7, hb⟩ := out_in h HTw.out; subst he; replace HL := Hid.mk (HL.out.step hb); replace HM := Hid.mk (HM.out.step hb); replace HX := Hid.mk (HX.out.step hb); replace HA := Hid.mk (HA.out.step hb); replace HCv := Hid.mk (HCv.out.step hb); replace HB := Hid.mk (HB.out.trans (hb.mono HB.out.size)); have HL7 := Hid.mk hl7; clear h hb hl7; clear hd2 hd3 hd4; have hd2 := And.intro HX.out.cells.1 (And.intro HA.out.cells.1 (And.intro HCv.out.cells.1 HCv.out.cells.2.2)); have hd3 := hd2; have hd4 := hd2) | (go_at_call 9; clear N3; refine (lwOps_same xs a7 xa c7 xc _ (by omega) HL7.out.ops HX.out.lv.ops).mono ?_; rintro e q3 ⟨rfl, hb⟩; replace HL := Hid.mk (HL.out.step hb); replace HM := Hid.mk (HM.out.step hb); replace HX := Hid.mk (HX.out.step hb); replace HA := Hid.mk (HA.out.step hb); replace HCv := Hid.mk (HCv.out.step hb); replace HB := Hid.mk (HB.out.trans (hb.mono HB.out.size)); clear hb; clear hd3 hd4; have hd3 := And.intro HX.out.cells.1 (And.intro HA.out.cells.1 (And.intro HCv.out.cells.1 HCv.out.cells.2.2)); have hd4 := hd3) | (go_at_call 7; clear N4; refine (iLogAdd_any xs m xa ma xc mc _ (by omega) (by omega) HX.out.lv.cap HM.out.cap HX.out.lv.ops HM.out.ops HSx.out HSm.out).mono ?_; intro e q4 h; obtain ⟨a9, c9, he, hl7, hb⟩ := out_in h HTw.out; subst he; replace HL := Hid.mk (HL.out.step hb); replace HM := Hid.mk (HM.out.step hb); replace HX := Hid.mk (HX.out.step hb); replace HA := Hid.mk (HA.out.step hb); replace HCv := Hid.mk (HCv.out.step hb); replace HB := Hid.mk (HB.out.trans (hb.mono HB.out.size)); have HL9 := Hid.mk hl7; clear h hb hl7; clear hd4; have hd4 := And.intro HX.out.cells.1 (And.intro HA.out.cells.1 (And.intro HCv.out.cells.1 HCv.out.cells.2.2))) | fail)
            all_goals (clear hd0 hd1 hd2 hd3 hd4; go_wp2; go_ret; exact ⟨rfl, HB.out⟩)
          · have hbb : (bk != 0) = true := by simpa using hbk
            clear hbk
            have hba : Below n3.heap.size n3 (n3.alloc (.cells #[.slice ba bl.length bc, .int .i64 bm, .int .i64 bk] 27)) := (Below.refl _ _).alloc (Nat.le_refl _) _
            have HBv := Hid.mk (AnsV.new h9 bm bk)
            obtain ⟨X6, hX⟩ : ∃ X, X = n3.alloc (.cells #[.slice ba bl.length bc, .int .i64 bm, .int .i64 bk] 27) := ⟨_, rfl⟩
            obtain ⟨Bb, hBB⟩ : ∃ B, B = n3.heap.size := ⟨_, rfl⟩
            clear h9
            go_wp2_with fail
            rw [← hX] at hba HBv ⊢
            rw [← hBB] at HBv
            try rw [← hBB]
            replace HL := Hid.mk (HL.out.step hba)
            replace HM := Hid.mk (HM.out.step hba)
            replace HX := Hid.mk (HX.out.step hba)
            replace HN := Hid.mk (HN.out.step hba)
            replace HA := Hid.mk (HA.out.step hba)
            replace HB := Hid.mk (HB.out.trans (hba.mono HB.out.size))
            clear hX hBB hba
            clear c0 c1 c2 hBa HBv HA HN
            have hbd : Below X6.heap.size X6 X6.drew := (Below.refl _ _).drew
            replace HL := Hid.mk (HL.out.step hbd)
            replace HM := Hid.mk (HM.out.step hbd)
            replace HX := Hid.mk (HX.out.step hbd)
            replace HB := Hid.mk (HB.out.trans (hbd.mono HB.out.size))
            clear hbd
            have hd0 := HX.out.cells.1
            have hd1 := hd0
            have hd2 := hd0
            have HTw := Hid.mk (log_twice HIx.out)
            go_region_held3 (fun W => W.cell? ⟨Bx, 0, none⟩ = some (.slice xa xs.length xc)) (first | with_reducible exact hd0 | with_reducible exact hd1 | with_reducible exact hd2 | fail) (first | (go_at_call 7; refine (iLogAdd_any xs m xa ma xc mc _ (by omega) (by omega) HX.out.lv.cap HM.out.cap HX.out.lv.ops HM.out.ops HSx.out HSm.out).mono ?_; intro e q1 h; obtain ⟨a7, c7, he, hl7, hb⟩ := out_in h HTw.out; subst he; replace HL := Hid.mk (HL.out.step hb); replace HM := Hid.mk (HM.out.step hb); replace HX := Hid.mk (HX.out.step hb); replace HB := Hid.mk (HB.out.trans (hb.mono HB.out.size)); have HL7 := Hid.mk hl7; clear h hb hl7 hd1 hd2; have hd1 := HX.out.cells.1; have hd2 := hd1) | (go_at_call 9; refine (lwOps_same xs a7 xa c7 xc _ (by omega) HL7.out.ops HX.out.lv.ops).mono ?_; rintro e q2 ⟨rfl, hb⟩; replace HL := Hid.mk (HL.out.step hb); replace HM := Hid.mk (HM.out.step hb); replace HX := Hid.mk (HX.out.step hb); replace HB := Hid.mk (HB.out.trans (hb.mono HB.out.size)); clear hb HL7 hd2; have hd2 := HX.out.cells.1) | fail)
            all_goals (clear hd0 hd1 hd2; go_wp2; go_ret; exact ⟨rfl, HB.out⟩)
        · have hab : (ak != 0) = true := by simpa using hak
          clear hak
          have hba : Below n3.heap.size n3 (n3.alloc (.cells #[.slice ba bl.length bc, .int .i64 bm, .int .i64 bk] 27)) := (Below.refl _ _).alloc (Nat.le_refl _) _
          have HBv := Hid.mk (AnsV.new h9 bm bk)
          obtain ⟨X6, hX⟩ : ∃ X, X = n3.alloc (.cells #[.slice ba bl.length bc, .int .i64 bm, .int .i64 bk] 27) := ⟨_, rfl⟩
          obtain ⟨Bb, hBB⟩ : ∃ B, B = n3.heap.size := ⟨_, rfl⟩
          clear h9
          go_wp2_with fail
          rw [← hX] at hba HBv ⊢
          rw [← hBB] at HBv
          try rw [← hBB]
          replace HL := Hid.mk (HL.out.step hba)
          replace HM := Hid.mk (HM.out.step hba)
          replace HX := Hid.mk (HX.out.step hba)
          replace HN := Hid.mk (HN.out.step hba)
          replace HA := Hid.mk (HA.out.step hba)
          replace HB := Hid.mk (HB.out.trans (hba.mono HB.out.size))
          clear hX hBB hba
          clear c0 c1 c2 hBa HBv HA HN
          have hbd : Below X6.heap.size X6 X6.drew := (Below.refl _ _).drew
          replace HL := Hid.mk (HL.out.step hbd)
          replace HM := Hid.mk (HM.out.step hbd)
          replace HX := Hid.mk (HX.out.step hbd)
          replace HB := Hid.mk (HB.out.trans (hbd.mono HB.out.size))
          clear hbd
          have hd0 := HX.out.cells.1
          have hd1 := hd0
          have hd2 := hd0
          have HTw := Hid.mk (log_twice HIx.out)
          go_region_held3 (fun W => W.cell? ⟨Bx, 0, none⟩ = some (.slice xa xs.length xc)) (first | with_reducible exact hd0 | with_reducible exact hd1 | with_reducible exact hd2 | fail) (first | (go_at_call 7; refine (iLogAdd_any xs m xa ma xc mc _ (by omega) (by omega) HX.out.lv.cap HM.out.cap HX.out.lv.ops HM.out.ops HSx.out HSm.out).mono ?_; intro e q1 h; obtain ⟨a7, c7, he, hl7, hb⟩ := out_in h HTw.out; subst he; replace HL := Hid.mk (HL.out.step hb); replace HM := Hid.mk (HM.out.step hb); replace HX := Hid.mk (HX.out.step hb); replace HB := Hid.mk (HB.out.trans (hb.mono HB.out.size)); have HL7 := Hid.mk hl7; clear h hb hl7 hd1 hd2; have hd1 := HX.out.cells.1; have hd2 := hd1) | (go_at_call 9; refine (lwOps_same xs a7 xa c7 xc _ (by omega) HL7.out.ops HX.out.lv.ops).mono ?_; rintro e q2 ⟨rfl, hb⟩; replace HL := Hid.mk (HL.out.step hb); replace HM := Hid.mk (HM.out.step hb); replace HX := Hid.mk (HX.out.step hb); replace HB := Hid.mk (HB.out.trans (hb.mono HB.out.size)); clear hb HL7 hd2; have hd2 := HX.out.cells.1) | fail)
          all_goals (clear hd0 hd1 hd2; go_wp2; go_ret; exact ⟨rfl, HB.out⟩)
      · have hx0 : xs = [] := log_bad (r := (xs, xm, xk)) HR.out.symm hxk
        subst hx0
        have hxb : (xk != 0) = true := by simpa using hxk
        clear hxk
        go_wp2
        go_ret
        exact ⟨rfl, HB.out⟩
end Go.Proofs.Ytlphcbgeagmopaa.OpR
namespace Go.Proofs.Ytlphcbgeagmopaa.SrcR
open Go.ChangeShapes Go.WideShapes Go.ChangeAt Go.RowKit Go.ChangeMaps
set_option linter.unusedVariables false

/-- What is known of a row of bytes that came in. -/
def Came8 (w : World) (ao : Option Addr) (len : Nat) : Prop := len ≤ maxLen ∧ (∀ j, j < len → ∃ (b off : Nat) (c : Int), ao = some ⟨b, off, none⟩ ∧ 0 ≤ c ∧ c ≤ 255 ∧ w.cell? ⟨b, off + j, none⟩ = some (.int .u8 c)) ∧ ∀ a, ao = some a → a.block < w.heap.size
theorem own : ownKnob Try.prog.godebug = none := by kernel_rfl
theorem laidOut : laidOutB Try.prog = true := by kernel_rfl
theorem cellsB : Try.prog.cellsOf 5 = 1 := by kernel_rfl
theorem shape_lt {w : World} {b : Nat} {x : TypeId × Nat} (h : w.shape? b = some x) : b < w.heap.size := by
  rcases Nat.lt_or_ge b w.heap.size with h' | h'
  · exact h'
  · unfold World.shape? at h
    rw [Array.getElem?_eq_none h'] at h
    simp at h
set_option maxRecDepth 100000 in
theorem came8 {H : Type} {enc : TypeId × Value → H} {W : World} {base : Nat} {v : Value} {d : DataW H} {p : List MemPlace} (hv : Value.okWide Try.prog W .any base 22 v) (h : DataW.Trod enc Try.prog W 0 (fun _ => true) true 22 v d p) :
    ∃ ao len cap, v = .slice ao len cap ∧ Came8 W ao len := by
  obtain ⟨ao, len, cap, rfl⟩ := okWide_slice Try.underlying22 hv
  refine ⟨ao, len, cap, rfl, ?_⟩
  have hbl : ∀ a, ao = some a → a.block < W.heap.size := by
    rintro a rfl
    simp only [Value.okWide, Try.underlying22, Cell.okWide, Cell.ok] at hv
    obtain ⟨_, _, _, _, row, cells, hs, _⟩ := hv
    exact shape_lt hs
  obtain ⟨fuel, hf⟩ := h
  rcases open_ints Try.underlying22 Try.underlying5 cellsB hf with ⟨hcs, hx⟩ | ⟨a, len', cap', zs, hcs, _, hl, hm, hz, hx, hcell, hwz⟩
  · simp [Value.cells] at hcs
    obtain ⟨rfl, rfl, rfl⟩ := hcs
    exact ⟨by unfold maxLen; omega, fun j hj => absurd hj (by omega), hbl⟩
  · simp [Value.cells] at hcs
    obtain ⟨rfl, rfl, rfl⟩ := hcs
    simp only [if_true] at hz
    refine ⟨by omega, fun j hj => ?_, hbl⟩
    obtain ⟨b, off, spot⟩ := a
    have hspot : spot = none := by simpa [Addr.add] using World.cell?_spot (hcell 0 (by omega))
    subst hspot
    have hmem : zs.getD j 0 ∈ zs := by
      rw [List.getD_eq_getElem?_getD, List.getElem?_eq_getElem (by omega), Option.getD_some]
      exact List.getElem_mem _
    have h5 := hwz _ hmem
    have e1 : IntKind.u8.min = 0 := rfl
    have e2 : IntKind.u8.max = 255 := rfl
    have h6 : 0 ≤ zs.getD j 0 ∧ zs.getD j 0 ≤ 255 := by simpa [Lit.wf, e1, e2] using h5
    exact ⟨b, off, zs.getD j 0, rfl, h6.1, h6.2, by rw [← add_plain]; exact hcell j (by omega)⟩

end Go.Proofs.Ytlphcbgeagmopaa.SrcR
