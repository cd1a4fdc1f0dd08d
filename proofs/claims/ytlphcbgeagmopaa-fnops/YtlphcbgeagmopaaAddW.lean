/- Proves what spec.l02Add tells. -/
import Derived.Test.YtlphcbgeagmopaaAddM
import Derived.Test.YtlphcbgeagmopaaNeqOp
import Derived.Test.YtlphcbgeagmopaaRowO
namespace Go.Proofs.Ytlphcbgeagmopaa.OpR
open Go.ChangeShapes Go.WideShapes Go.ChangeAt Go.RowKit
set_option linter.unusedVariables false

theorem OwnAt.setCell {w : World} {base : Nat} {T : TypeId} {v : Value} {l : List OpV} (h : OwnAt w base T v l) {b i : Nat} {x : Value} (hb : b < base) : OwnAt (w.setCell ⟨b, i, none⟩ x) base T v l :=
  ⟨ownsRow_setCell_other h.1 (fun e => by have h2 : base ≤ b := (h.1.lt b e).1; omega) x, h.2⟩
/-- What is told of ops put to a log: the ops, how many are new, the code. -/
def addRes (l m : List OpV) : List OpV × Int × Int :=
  match addAll (l, 0) m with
  | none => ([], 0, 7)
  | some s => if 150 < s.1.length then ([], 0, 9) else (s.1, s.2, 0)
/-- A row that is told: its own, or none. -/
def OpsOf (w : World) (base : Nat) (T : TypeId) (v : Value) (l : List OpV) : Prop := OwnAt w base T v l ∨ (v = .slice none 0 0 ∧ l = [])
theorem res_none {l m : List OpV} (h : addAll (l, 0) m = none) : addRes l m = ([], 0, 7) := by unfold addRes; rw [h]
theorem res_full {l m out : List OpV} {many : Int} (h : addAll (l, 0) m = some (out, many)) (hn : 150 < out.length) : addRes l m = ([], 0, 9) := by
  unfold addRes; rw [h]; exact if_pos hn
theorem res_some {l m out : List OpV} {many : Int} (h : addAll (l, 0) m = some (out, many)) (hn : ¬ 150 < out.length) : addRes l m = (out, many, 0) := by
  unfold addRes; rw [h]; exact if_neg hn
theorem take_snoc {m : List OpV} {i : Nat} (h : i < m.length) : m.take (i + 1) = m.take i ++ [m[i]] := by
  rw [List.take_add_one, List.getElem?_eq_getElem h]; rfl
theorem step_some {l m out : List OpV} {many : Int} {s : List OpV × Int} {i : Nat} (h : i < m.length) (ha : addAll (l, 0) (m.take i) = some (out, many)) (ho : addOne (out, many) m[i] = some s) : addAll (l, 0) (m.take (i + 1)) = some s := by
  rw [take_snoc h, addAll_snoc, ha]; exact ho
theorem step_none {l m out : List OpV} {many : Int} {i : Nat} (h : i < m.length) (ha : addAll (l, 0) (m.take i) = some (out, many)) (ho : addOne (out, many) m[i] = none) : addAll (l, 0) m = none := by
  have h1 : addAll (l, 0) (m.take (i + 1)) = none := by rw [take_snoc h, addAll_snoc, ha]; exact ho
  have h2 := addAll_stuck (l, 0) (m.take (i + 1)) (m.drop (i + 1)) h1
  rwa [List.take_append_drop] at h2
set_option maxRecDepth 100000 in
set_option maxHeartbeats 2000000 in
theorem sAdd_any (l m : List OpV) (ao1 ao2 : Option Addr) (cap1 cap2 : Nat) (w : World) (hl : l.length ≤ 150) (hm : m.length ≤ 150) (hA : OpsAt w ao1 l) (hC : OpsAt w ao2 m) :
    Calls Try.prog 51 #[.slice ao1 l.length cap1, .slice ao2 m.length cap2] w fun e w' => ∃ v, e = .returned (.agg #[v, .int .i64 (addRes l m).2.1, .int .i64 (addRes l m).2.2]) ∧ OpsOf w' (w.heap.size + 1) 40 v (addRes l m).1 ∧ Below w.heap.size w w' := by
  obtain ⟨i0, hi, hzz⟩ := Option.map_eq_some_iff.1 infoOp
  simp only [Prod.mk.injEq] at hzz
  obtain ⟨hz0, hz1, hz2⟩ := hzz
  have HA : Hid (OpsAt w ao1 l) := ⟨hA⟩
  have HC : Hid (OpsAt w ao2 m) := ⟨hC⟩
  clear hA hC
  have hown0 : ((w.alloc (.cells #[.slice none 0 0, .int .i64 0, .int .i64 0] 27)).alloc (.cells #[] 40)).ownsRow (w.heap.size + 1) 40 7 (.slice (some ⟨w.heap.size + 1, 0, none⟩) 0 0) 0 [] := by
    have h := World.ownsRow_made (base := w.heap.size + 1) (e := 40) (size := 7) (w.alloc (.cells #[.slice none 0 0, .int .i64 0, .int .i64 0] 27)) #[] 0 (by simp) (by decide) rfl
    simpa using h
  go_enter Try.func51, Try.ntmps51
  go_wp2_with (at_builtin; refine wpList_append_ops rfl _ _ rfl (w.heap.size + 1) _ [] rfl hown0 ao1 l cap1 rfl ?c1 ?c3 ?c5 ?_)
  case c1 => exact (HA.out.stays ((Below.refl _ _).alloc (Nat.le_refl _) _)).stays ((Below.refl _ _).alloc (Nat.le_refl _) _)
  case c3 => simp; omega
  case c5 => simp
  intro v1 w1 hown1 hg1 hne1
  have hO : OwnAt w1 (w.heap.size + 1) 40 v1 l := ⟨by simpa using hown1, fun hh => by simp [hh] at hne1⟩
  have hB : Below w.heap.size w w1 := (((Below.refl _ _).alloc (Nat.le_refl _) _).alloc (by simp) _).grown hg1 (by simp; omega) (fun k hk => by simp [Value.ownBlock] at hk; omega)
  have hres : w1.heap[w.heap.size]? = some (.cells #[.slice none 0 0, .int .i64 0, .int .i64 0] 27 (0, 0)) :=
    (hg1.block w.heap.size (by simp; omega) (by simp [Value.ownBlock])).trans ((Below.heap_alloc _ _ _ (by simp)).trans (heap_alloc_new w _))
  have HRes : Hid (w1.heap[w.heap.size]? = some (.cells #[.slice none 0 0, .int .i64 0, .int .i64 0] 27 (0, 0))) := ⟨hres⟩
  clear hown1 hg1 hne1 hown0 hres
  go_wp2
  go_loopw [5, 6, 7] (fun v mv iv wr => ∃ (i : Nat) (out : List OpV) (many : Nat), i ≤ m.length ∧ iv = .int .i64 i ∧ mv = .int .i64 many ∧ addAll (l, 0) (m.take i) = some (out, (many : Int)) ∧ OwnAt wr (w.heap.size + 1) 40 v out ∧ out.length ≤ l.length + i ∧ many ≤ i ∧ Below w.heap.size w wr ∧ wr.heap[w.heap.size]? = some (.cells #[.slice none 0 0, .int .i64 0, .int .i64 0] 27 (0, 0))) (fun _ _ iv _ => m.length - (intOf iv).toNat)
  case atStart => exact ⟨0, l, 0, by omega, rfl, rfl, rfl, hO, by omega, by omega, hB, HRes.out⟩
  case round =>
    clear hO hB HRes
    obtain ⟨i, out, many, hi', rfl, rfl, hadd, hO, hlen, hmany, hB, hres⟩ := hrel
    have HAdd : Hid (addAll (l, 0) (m.take i) = some (out, (many : Int))) := ⟨hadd⟩
    have HO : Hid (OwnAt wr (w.heap.size + 1) 40 u5 out) := ⟨hO⟩
    have HRes : Hid (wr.heap[w.heap.size]? = some (.cells #[.slice none 0 0, .int .i64 0, .int .i64 0] 27 (0, 0))) := ⟨hres⟩
    obtain ⟨g, cap, rfl, hgb, hglt, hcap1, hcap2, hat⟩ := hO.at
    have HAt : Hid (OpsAt wr (some ⟨g, 0, none⟩) out) := ⟨hat⟩
    clear hadd hO hres hat
    obtain ⟨wo, rfl⟩ : ∃ x, x = wr := ⟨wr, rfl⟩
    by_cases h : i < m.length
    · obtain ⟨b2, o2, rfl, _, _⟩ := HC.out i h
      have hi0 : (0 : Int) ≤ (i : Int) := by omega
      have hi1 : (i : Int) < (m.length : Int) := by omega
      unfold maxLen at hcap2
      go_wp2
      go_loopw [8] (fun q wi => ∃ k : Nat, k ≤ out.length ∧ q = .int .i64 k ∧ (∀ j (hj : j < out.length), j < k → ahead out[j] m[i] = true) ∧ Below wo.heap.size wo wi) (fun q _ => out.length - (intOf q).toNat)
      case atStart => exact ⟨0, by omega, rfl, fun j hj h => by omega, Below.refl _ _⟩
      case round =>
        obtain ⟨k, hk, rfl, hah, hbi⟩ := hrel
        have HAh : Hid (∀ j (hj : j < out.length), j < k → ahead out[j] m[i] = true) := ⟨hah⟩
        clear hah
        by_cases hkl : k < out.length
        · obtain ⟨c0, c1, c2, c3, c4, c5, c6⟩ := (HAt.out.stays hbi).at0 hkl
          obtain ⟨d0, d1, d2, d3, d4, d5, d6⟩ := ((HC.out.stays hB).stays hbi).atk h
          have hcall := ahead_any out[k] m[i] wr.drew
          unfold OpV.agg at hcall
          have hk0 : (0 : Int) ≤ (k : Int) := by omega
          have hk1 : (k : Int) < (out.length : Int) := by omega
          go_wp2
          go_region_held3 (fun w' => w'.cell? ⟨g, k * 7, none⟩ = some (.int .i64 out[k].time) ∧ w'.cell? ⟨g, k * 7 + 1, none⟩ = some (.int .i64 out[k].repl) ∧ w'.cell? ⟨g, k * 7 + 2, none⟩ = some (.int .i64 out[k].kind) ∧ w'.cell? ⟨g, k * 7 + 3, none⟩ = some (.int .i64 out[k].node) ∧ w'.cell? ⟨g, k * 7 + 4, none⟩ = some (.int .i64 out[k].parent) ∧ w'.cell? ⟨g, k * 7 + 5, none⟩ = some (.string out[k].name) ∧ w'.cell? ⟨g, k * 7 + 6, none⟩ = some (.string out[k].value) ∧ w'.cell? ⟨b2, o2 + i * 7, none⟩ = some (.int .i64 m[i].time) ∧ w'.cell? ⟨b2, o2 + i * 7 + 1, none⟩ = some (.int .i64 m[i].repl) ∧ w'.cell? ⟨b2, o2 + i * 7 + 2, none⟩ = some (.int .i64 m[i].kind) ∧ w'.cell? ⟨b2, o2 + i * 7 + 3, none⟩ = some (.int .i64 m[i].node) ∧ w'.cell? ⟨b2, o2 + i * 7 + 4, none⟩ = some (.int .i64 m[i].parent) ∧ w'.cell? ⟨b2, o2 + i * 7 + 5, none⟩ = some (.string m[i].name) ∧ w'.cell? ⟨b2, o2 + i * 7 + 6, none⟩ = some (.string m[i].value)) (exact ⟨c0, c1, c2, c3, c4, c5, c6, d0, d1, d2, d3, d4, d5, d6⟩) (first | (go_at_call 102; refine hcall.mono ?_; rintro e x1 ⟨rfl, hx1⟩; have hX := hbi.drew.trans (hx1.mono hbi.size); obtain ⟨c0, c1, c2, c3, c4, c5, c6⟩ := (HAt.out.stays hX).at0 hkl; obtain ⟨d0, d1, d2, d3, d4, d5, d6⟩ := ((HC.out.stays hB).stays hX).atk h))
          clear hcall
          cases ha : ahead out[k] m[i]
          · have hpl : place out m[i] = k := place_eq hk HAh.out (fun _ => ha)
            have HPl : Hid (place out m[i] = k) := ⟨hpl⟩
            have hcall := stamp_any out[k] m[i] x1.drew
            unfold OpV.agg at hcall
            clear hpl ha hx1
            go_wp2
            go_region_held3 (fun w' => w'.cell? ⟨g, k * 7, none⟩ = some (.int .i64 out[k].time) ∧ w'.cell? ⟨g, k * 7 + 1, none⟩ = some (.int .i64 out[k].repl) ∧ w'.cell? ⟨g, k * 7 + 2, none⟩ = some (.int .i64 out[k].kind) ∧ w'.cell? ⟨g, k * 7 + 3, none⟩ = some (.int .i64 out[k].node) ∧ w'.cell? ⟨g, k * 7 + 4, none⟩ = some (.int .i64 out[k].parent) ∧ w'.cell? ⟨g, k * 7 + 5, none⟩ = some (.string out[k].name) ∧ w'.cell? ⟨g, k * 7 + 6, none⟩ = some (.string out[k].value) ∧ w'.cell? ⟨b2, o2 + i * 7, none⟩ = some (.int .i64 m[i].time) ∧ w'.cell? ⟨b2, o2 + i * 7 + 1, none⟩ = some (.int .i64 m[i].repl) ∧ w'.cell? ⟨b2, o2 + i * 7 + 2, none⟩ = some (.int .i64 m[i].kind) ∧ w'.cell? ⟨b2, o2 + i * 7 + 3, none⟩ = some (.int .i64 m[i].node) ∧ w'.cell? ⟨b2, o2 + i * 7 + 4, none⟩ = some (.int .i64 m[i].parent) ∧ w'.cell? ⟨b2, o2 + i * 7 + 5, none⟩ = some (.string m[i].name) ∧ w'.cell? ⟨b2, o2 + i * 7 + 6, none⟩ = some (.string m[i].value)) (exact ⟨c0, c1, c2, c3, c4, c5, c6, d0, d1, d2, d3, d4, d5, d6⟩) (first | (go_at_call 59; refine hcall.mono ?_; rintro e x2 ⟨rfl, hx2⟩; have hX2 := hX.drew.trans (hx2.mono hX.size); obtain ⟨c0, c1, c2, c3, c4, c5, c6⟩ := (HAt.out.stays hX2).at0 hkl; obtain ⟨d0, d1, d2, d3, d4, d5, d6⟩ := ((HC.out.stays hB).stays hX2).atk h))
            clear hcall
            cases hst : stamp out[k] m[i]
            · clear c0 c1 c2 c3 c4 c5 c6 d0 d1 d2 d3 d4 d5 d6
              have hsl1 := fun W => slice_high W g out.length cap k hk hcap1
              have hsl2 := fun W => slice_low W g out.length cap k hk hcap1
              have hE := empty_row x2
              have hXs := hX2.size
              have hBs := hB.size
              have hk0 : (0 : Int) ≤ (k : Int) := by omega
              have hk1 : (k : Int) ≤ (out.length : Int) := by omega
              go_wp2_with (at_builtin; refine wpList_append_own _ rfl _ _ 23 rfl x2.heap.size 40 i0 _ 7 72 Try.underlying23 hi hz0 hz1 hz2 rfl (by decide) _ 0 [] rfl hE ⟨g, 0, none⟩ k cap (flat (out.take k)) rfl (take_len hk) ?c1 (flat_one _) ?c3 ?c4 ?c5 ?_)
              case c1 => exact (((HAt.out.stays hX2).stays ((Below.refl _ _).alloc (Nat.le_refl _) _)).take k).cells
              case c3 => unfold maxLen; omega
              case c4 => omega
              case c5 => simp
              intro v2 y2 hown2 hg2 hne2
              have hY2 : Below x2.heap.size x2 y2 := ((Below.refl _ _).alloc (Nat.le_refl _) _).grown hg2 (by simp) (fun j hj => by simp [Value.ownBlock] at hj; omega)
              have hb2 := hX2.trans (hY2.mono hX2.size)
              obtain ⟨d0, d1, d2, d3, d4, d5, d6⟩ := ((HC.out.stays hB).stays hb2).atk h
              clear hE hg2
              go_wp2_with (at_builtin; refine wpList_append_own _ rfl _ _ 23 rfl x2.heap.size 40 i0 _ 7 72 Try.underlying23 hi hz0 hz1 hz2 rfl (by decide) _ k (flat (out.take k)) rfl (hown2.alloc _) ⟨y2.heap.size, 0, none⟩ 1 1 m[i].cells rfl rfl ?e1 (op_one _) ?e3 ?e4 ?e5 ?_)
              case e1 =>
                intro j u hu
                rw [Addr.add_lit, Nat.zero_add, World.cell?_alloc_at _ _ _ _ rfl]
                simpa [OpV.cells] using hu
              case e3 => unfold maxLen; omega
              case e4 => omega
              case e5 => have := hY2.size; simp; omega
              intro v3 y3 hown3 hg3 hne3
              have hY3 : Below x2.heap.size x2 y3 := (hY2.alloc hY2.size _).grown hg3 (by have := hY2.size; simp; omega) (fun j hj => (hown2.lt j hj).1)
              have hb3 := hX2.trans (hY3.mono hX2.size)
              clear hg3 d0 d1 d2 d3 d4 d5 d6
              go_wp2_with (at_builtin; refine wpList_append_own _ rfl _ _ 23 rfl x2.heap.size 40 i0 _ 7 72 Try.underlying23 hi hz0 hz1 hz2 rfl (by decide) _ (k + 1) (flat (out.take k) ++ m[i].cells) rfl hown3 ⟨g, lowOff cap k, none⟩ (out.length - k) (cap - k) (flat (out.drop k)) rfl (drop_len out k) ?f1 (flat_one _) ?f3 ?f4 ?f5 ?_)
              case f1 => exact ((HAt.out.stays hb3).low hcap1).cells
              case f3 => unfold maxLen; omega
              case f4 => omega
              case f5 => exact hY3.size
              intro v4 y4 hown4 hg4 hne4
              have hY4 : Below x2.heap.size x2 y4 := hY3.grown hg4 hY3.size (fun j hj => (hown3.lt j hj).1)
              have hb4 := hX2.trans (hY4.mono hX2.size)
              have hB4 := hB.trans (hb4.mono hB.size)
              have hO4 : OwnAt y4 (w.heap.size + 1) 40 v4 (out.take k ++ m[i] :: out.drop k) := ⟨by
                have hl4 : (out.take k ++ m[i] :: out.drop k).length = k + 1 + (out.length - k) := by simp; omega
                rw [hl4, ← flat_ins, List.append_assoc]
                exact owns_base hown4 (by omega), hne4⟩
              have HO4 : Hid (OwnAt y4 (w.heap.size + 1) 40 v4 (out.take k ++ m[i] :: out.drop k)) := ⟨hO4⟩
              have HRes4 : Hid (y4.heap[w.heap.size]? = some (.cells #[.slice none 0 0, .int .i64 0, .int .i64 0] 27 (0, 0))) := ⟨(hb4.block w.heap.size (by omega)).trans HRes.out⟩
              have HNew : Hid (addAll (l, 0) (m.take (i + 1)) = some (out.take k ++ m[i] :: out.drop k, (many : Int) + 1)) := ⟨step_some h HAdd.out (addOne_new HPl.out (fun _ => hst))⟩
              clear hown4 hg4 hne4 hown3 hne3 hown2 hne2 hO4 hsl1 hsl2
              go_wp2
              go_roundw
              case rel =>
                refine ⟨i + 1, _, many + 1, by omega, by go_num, by go_num, HNew.out, HO4.out, ?_, by omega, hB4, HRes4.out⟩
                simp
                omega
              case measure => simp [intOf]; omega
            · have HSt : Hid (stamp out[k] m[i] = true) := ⟨hst⟩
              clear hst
              have hneq := neq_ops out[k] m[i]
              unfold OpV.agg at hneq
              have hres2 : x2.heap[w.heap.size]? = some (.cells #[.slice none 0 0, .int .i64 0, .int .i64 0] 27 (0, 0)) := (hX2.block w.heap.size (by omega)).trans HRes.out
              have hb2 := hB.trans (hX2.mono hB.size)
              obtain ⟨r0, r1, r2, f0, f1, f2, hrlt⟩ := cells3 hres2
              have HR2 : Hid (x2.heap[w.heap.size]? = some (.cells #[.slice none 0 0, .int .i64 0, .int .i64 0] 27 (0, 0))) := ⟨hres2⟩
              clear hres2
              by_cases he : out[k] = m[i]
              · rw [same_true he] at hneq
                have HNew : Hid (addAll (l, 0) (m.take (i + 1)) = some (out, (many : Int))) := ⟨step_some h HAdd.out (addOne_there HPl.out hkl HSt.out he)⟩
                clear he
                go_wp2
                go_region_held3 (fun w' => w'.cell? ⟨g, k * 7, none⟩ = some (.int .i64 out[k].time) ∧ w'.cell? ⟨g, k * 7 + 1, none⟩ = some (.int .i64 out[k].repl) ∧ w'.cell? ⟨g, k * 7 + 2, none⟩ = some (.int .i64 out[k].kind) ∧ w'.cell? ⟨g, k * 7 + 3, none⟩ = some (.int .i64 out[k].node) ∧ w'.cell? ⟨g, k * 7 + 4, none⟩ = some (.int .i64 out[k].parent) ∧ w'.cell? ⟨g, k * 7 + 5, none⟩ = some (.string out[k].name) ∧ w'.cell? ⟨g, k * 7 + 6, none⟩ = some (.string out[k].value) ∧ w'.cell? ⟨b2, o2 + i * 7, none⟩ = some (.int .i64 m[i].time) ∧ w'.cell? ⟨b2, o2 + i * 7 + 1, none⟩ = some (.int .i64 m[i].repl) ∧ w'.cell? ⟨b2, o2 + i * 7 + 2, none⟩ = some (.int .i64 m[i].kind) ∧ w'.cell? ⟨b2, o2 + i * 7 + 3, none⟩ = some (.int .i64 m[i].node) ∧ w'.cell? ⟨b2, o2 + i * 7 + 4, none⟩ = some (.int .i64 m[i].parent) ∧ w'.cell? ⟨b2, o2 + i * 7 + 5, none⟩ = some (.string m[i].name) ∧ w'.cell? ⟨b2, o2 + i * 7 + 6, none⟩ = some (.string m[i].value)) (exact ⟨c0, c1, c2, c3, c4, c5, c6, d0, d1, d2, d3, d4, d5, d6⟩) (fail)
                clear hneq c0 c1 c2 c3 c4 c5 c6 d0 d1 d2 d3 d4 d5 d6
                go_wp2
                go_roundw
                case rel => exact ⟨i + 1, out, many, by omega, by go_num, rfl, HNew.out, HO.out.below hX2.drew, by omega, by omega, hb2.drew, HR2.out⟩
                case measure => simp [intOf]; omega
              · rw [same_false he] at hneq
                have HNo : Hid (addRes l m = ([], 0, 7)) := ⟨res_none (step_none h HAdd.out (addOne_wrong HPl.out hkl HSt.out he))⟩
                clear he
                go_wp2
                go_region_held3 (fun w' => w'.cell? ⟨g, k * 7, none⟩ = some (.int .i64 out[k].time) ∧ w'.cell? ⟨g, k * 7 + 1, none⟩ = some (.int .i64 out[k].repl) ∧ w'.cell? ⟨g, k * 7 + 2, none⟩ = some (.int .i64 out[k].kind) ∧ w'.cell? ⟨g, k * 7 + 3, none⟩ = some (.int .i64 out[k].node) ∧ w'.cell? ⟨g, k * 7 + 4, none⟩ = some (.int .i64 out[k].parent) ∧ w'.cell? ⟨g, k * 7 + 5, none⟩ = some (.string out[k].name) ∧ w'.cell? ⟨g, k * 7 + 6, none⟩ = some (.string out[k].value) ∧ w'.cell? ⟨b2, o2 + i * 7, none⟩ = some (.int .i64 m[i].time) ∧ w'.cell? ⟨b2, o2 + i * 7 + 1, none⟩ = some (.int .i64 m[i].repl) ∧ w'.cell? ⟨b2, o2 + i * 7 + 2, none⟩ = some (.int .i64 m[i].kind) ∧ w'.cell? ⟨b2, o2 + i * 7 + 3, none⟩ = some (.int .i64 m[i].node) ∧ w'.cell? ⟨b2, o2 + i * 7 + 4, none⟩ = some (.int .i64 m[i].parent) ∧ w'.cell? ⟨b2, o2 + i * 7 + 5, none⟩ = some (.string m[i].name) ∧ w'.cell? ⟨b2, o2 + i * 7 + 6, none⟩ = some (.string m[i].value)) (exact ⟨c0, c1, c2, c3, c4, c5, c6, d0, d1, d2, d3, d4, d5, d6⟩) (fail)
                clear hneq c0 c1 c2 c3 c4 c5 c6 d0 d1 d2 d3 d4 d5 d6
                go_wp2
                refine bodyPost_ret (v := .agg #[.slice none 0 0, .int .i64 0, .int .i64 7]) (by simp [results, Try.results51, go_sem, r0, r1, r2]) rfl ⟨.slice none 0 0, by rw [HNo.out], .inr ⟨rfl, by rw [HNo.out]⟩, ?_⟩
                exact (((hb2.setCell (Nat.le_refl _) _).setCell (Nat.le_refl _) _).setCell (Nat.le_refl _) _).drew
          · clear c0 c1 c2 c3 c4 c5 c6 d0 d1 d2 d3 d4 d5 d6
            go_wp2
            go_roundw
            case rel =>
              refine ⟨k + 1, by omega, by go_num, fun j hj hjk => ?_, hX⟩
              rcases Nat.lt_or_ge j k with h' | h'
              · exact HAh.out j hj h'
              · obtain rfl : j = k := by omega
                exact ha
            case measure => simp [intOf]; omega
        · obtain rfl : k = out.length := by omega
          have hpl : place out m[i] = out.length := place_eq hk HAh.out (fun hh => absurd hh hkl)
          have HPl : Hid (place out m[i] = out.length) := ⟨hpl⟩
          clear hpl
          go_wp2
          go_region
          go_wp2
          go_region
          have hXB : Below wo.heap.size wo wr.drew.drew := hbi.drew.drew
          obtain ⟨XB, hXe⟩ : ∃ XB, XB = wr.drew.drew := ⟨_, rfl⟩
          rw [← hXe] at hXB ⊢
          clear hXe
          have hsl1 := fun W => slice_high W g out.length cap out.length hk hcap1
          have hsl2 := fun W => slice_low W g out.length cap out.length hk hcap1
          have hE := empty_row XB
          have hXs := hXB.size
          have hBs := hB.size
          have hk0 : (0 : Int) ≤ (out.length : Int) := by omega
          have hk1 : (out.length : Int) ≤ (out.length : Int) := by omega
          go_wp2_with (at_builtin; refine wpList_append_own _ rfl _ _ 23 rfl XB.heap.size 40 i0 _ 7 72 Try.underlying23 hi hz0 hz1 hz2 rfl (by decide) _ 0 [] rfl hE ⟨g, 0, none⟩ out.length cap (flat (out.take out.length)) rfl (take_len hk) ?c1 (flat_one _) ?c3 ?c4 ?c5 ?_)
          case c1 => exact (((HAt.out.stays hXB).stays ((Below.refl _ _).alloc (Nat.le_refl _) _)).take out.length).cells
          case c3 => unfold maxLen; omega
          case c4 => omega
          case c5 => simp
          intro v2 y2 hown2 hg2 hne2
          have hY2 : Below XB.heap.size XB y2 := ((Below.refl _ _).alloc (Nat.le_refl _) _).grown hg2 (by simp) (fun j hj => by simp [Value.ownBlock] at hj; omega)
          have hb2 := hXB.trans (hY2.mono hXB.size)
          obtain ⟨d0, d1, d2, d3, d4, d5, d6⟩ := ((HC.out.stays hB).stays hb2).atk h
          clear hE hg2
          go_wp2_with (at_builtin; refine wpList_append_own _ rfl _ _ 23 rfl XB.heap.size 40 i0 _ 7 72 Try.underlying23 hi hz0 hz1 hz2 rfl (by decide) _ out.length (flat out) rfl (hown2.alloc _) ⟨y2.heap.size, 0, none⟩ 1 1 m[i].cells rfl rfl ?e1 (op_one _) ?e3 ?e4 ?e5 ?_)
          case e1 =>
            intro j u hu
            rw [Addr.add_lit, Nat.zero_add, World.cell?_alloc_at _ _ _ _ rfl]
            simpa [OpV.cells] using hu
          case e3 => unfold maxLen; omega
          case e4 => omega
          case e5 => have := hY2.size; simp; omega
          intro v3 y3 hown3 hg3 hne3
          have hY3 : Below XB.heap.size XB y3 := (hY2.alloc hY2.size _).grown hg3 (by have := hY2.size; simp; omega) (fun j hj => (hown2.lt j hj).1)
          have hb3 := hXB.trans (hY3.mono hXB.size)
          clear hg3 d0 d1 d2 d3 d4 d5 d6
          go_wp2_with (at_builtin; refine wpList_append_own _ rfl _ _ 23 rfl XB.heap.size 40 i0 _ 7 72 Try.underlying23 hi hz0 hz1 hz2 rfl (by decide) _ (out.length + 1) (flat out ++ m[i].cells) rfl hown3 ⟨g, lowOff cap out.length, none⟩ 0 (cap - out.length) [] rfl rfl ?f1 ?f2 ?f3 ?f4 ?f5 ?_)
          case f1 => intro j u hu; simp at hu
          case f2 => intro u hu; simp at hu
          case f3 => unfold maxLen; omega
          case f4 => omega
          case f5 => exact hY3.size
          intro v4 y4 hown4 hg4 hne4
          have hY4 : Below XB.heap.size XB y4 := hY3.grown hg4 hY3.size (fun j hj => (hown3.lt j hj).1)
          have hb4 := hXB.trans (hY4.mono hXB.size)
          have hB4 := hB.trans (hb4.mono hB.size)
          have hO4 : OwnAt y4 (w.heap.size + 1) 40 v4 (out.take out.length ++ m[i] :: out.drop out.length) := ⟨by
            have e4 : out.take out.length ++ m[i] :: out.drop out.length = out ++ [m[i]] := by rw [List.take_length, List.drop_length]
            have hl4 : (out ++ [m[i]]).length = out.length + 1 := by simp
            have hf4 : flat (out ++ [m[i]]) = flat out ++ m[i].cells := by rw [flat_app]; simp [flat]
            rw [e4, hl4, hf4]
            exact owns_base (by simpa using hown4) (by omega), hne4⟩
          have HO4 : Hid (OwnAt y4 (w.heap.size + 1) 40 v4 (out.take out.length ++ m[i] :: out.drop out.length)) := ⟨hO4⟩
          have HRes4 : Hid (y4.heap[w.heap.size]? = some (.cells #[.slice none 0 0, .int .i64 0, .int .i64 0] 27 (0, 0))) := ⟨(hb4.block w.heap.size (by omega)).trans HRes.out⟩
          have HNew : Hid (addAll (l, 0) (m.take (i + 1)) = some (out.take out.length ++ m[i] :: out.drop out.length, (many : Int) + 1)) := ⟨step_some h HAdd.out (addOne_new HPl.out (fun hh => absurd hh (by omega)))⟩
          clear hown4 hg4 hne4 hown3 hne3 hown2 hne2 hO4 hsl1 hsl2
          go_wp2
          go_roundw
          case rel =>
            refine ⟨i + 1, _, many + 1, by omega, by go_num, by go_num, HNew.out, HO4.out, ?_, by omega, hB4, HRes4.out⟩
            simp
            omega
          case measure => simp [intOf]; omega
    · obtain rfl : i = m.length := by omega
      have hadd := HAdd.out
      rw [List.take_length] at hadd
      have HAdd2 : Hid (addAll (l, 0) m = some (out, (many : Int))) := ⟨hadd⟩
      obtain ⟨r0, r1, r2, f0, f1, f2, hrlt⟩ := cells3 HRes.out
      clear hadd
      by_cases hfull : 150 < out.length
      · have HRs : Hid (addRes l m = ([], 0, 9)) := ⟨res_full HAdd2.out hfull⟩
        go_wp2
        refine bodyPost_ret (v := .agg #[.slice none 0 0, .int .i64 0, .int .i64 9]) (by simp [results, Try.results51, go_sem, r0, r1, r2]) rfl ⟨.slice none 0 0, by rw [HRs.out], .inr ⟨rfl, by rw [HRs.out]⟩, ?_⟩
        exact ((hB.setCell (Nat.le_refl _) _).setCell (Nat.le_refl _) _).setCell (Nat.le_refl _) _
      · have HRs : Hid (addRes l m = (out, (many : Int), 0)) := ⟨res_some HAdd2.out hfull⟩
        go_wp2
        refine bodyPost_ret (v := .agg #[.slice (some ⟨g, 0, none⟩) out.length cap, .int .i64 (many : Int), .int .i64 0]) (by simp [results, Try.results51, go_sem, r0, r1, r2]) rfl ⟨.slice (some ⟨g, 0, none⟩) out.length cap, by rw [HRs.out], .inl ?_, ?_⟩
        · rw [HRs.out]
          exact ((HO.out.setCell (Nat.lt_succ_self _)).setCell (Nat.lt_succ_self _)).setCell (Nat.lt_succ_self _)
        · exact ((hB.setCell (Nat.le_refl _) _).setCell (Nat.le_refl _) _).setCell (Nat.le_refl _) _
end Go.Proofs.Ytlphcbgeagmopaa.OpR
