/- Proves what spec.Download and impl.Download answer. -/
import Derived.Test.YtkfjommoogmehaaSrvO
import Derived.Test.YtkfjommoogmehaaSrvS
import Derived.Test.YtkfjommoogmehaaOwnW
namespace Go.Proofs.Ytkfjommoogmehaa.OpR
open Go.ChangeShapes Go.WideShapes Go.ChangeAt Go.RowKit
set_option linter.unusedVariables false

/-- What a server sends down. -/
def dlOps (s : SrvV) (fr most : Int) : List OpV := (s.ops.drop fr.toNat).take most.toNat
def dlRes (s : SrvV) (fr most : Int) : SOutV :=
  if (srvRight s && (isIn fr 0 s.ops.length && isIn most 0 50)) = false then SOutV.ill 0 1 else ⟨SrvV.zero, dlOps s fr most, 0, 0⟩
/-- What spec tells. -/
def SvT (w w' : World) (e : Ending) (x : SOutV) : Prop := ∃ la lc sa sc oa oc, e = .returned (x.agg la lc sa sc oa oc) ∧ OpsAt w' la x.srv.ops ∧ SeensAt w' sa x.srv.seen ∧ OpsAt w' oa x.ops ∧ Below w.heap.size w w'
/-- What impl tells. -/
def IvT (w w' : World) (e : Ending) (x : SOutV) : Prop := ∃ la lc sa sc oa oc, e = .returned (x.agg la lc sa sc oa oc) ∧ OpsAt w' la x.srv.ops ∧ SeensAt w' sa x.srv.seen ∧ OpsAt w' oa x.ops ∧ MarkSO w' x la sa oa ∧ (∀ a, la = some a → w.heap.size ≤ a.block) ∧ (∀ a, sa = some a → w.heap.size ≤ a.block) ∧ (∀ a, oa = some a → w.heap.size ≤ a.block) ∧ Below w.heap.size w w'
theorem no_ops {w : World} : OpsAt w none [] := fun j hj => absurd hj (by simp)
theorem SvT.ill {w w' : World} {many code : Int} (hb : Below w.heap.size w w') : SvT w w' (.returned ((SOutV.ill many code).agg none 0 none 0 none 0)) (SOutV.ill many code) := ⟨none, 0, none, 0, none, 0, rfl, no_ops, SeensAt.none_ _, no_ops, hb⟩
theorem IvT.ill {w w' : World} {many code : Int} (hb : Below w.heap.size w w') : IvT w w' (.returned ((SOutV.ill many code).agg none 0 none 0 none 0)) (SOutV.ill many code) := ⟨none, 0, none, 0, none, 0, rfl, no_ops, SeensAt.none_ _, no_ops, MarkSO.none_ _ _ _, fun a e => (by cases e), fun a e => (by cases e), fun a e => (by cases e), hb⟩
/-- A server, and the answer's own. -/
structure SD (w W : World) (s : SrvV) (la : Option Addr) (lc : Nat) (sa : Option Addr) (sc : Nat) : Prop where
  sb : SB w W s la lc sa sc
  res : W.heap[w.heap.size + 1]? = some (.cells #[.slice none 0 0, .slice none 0 0, .slice none 0 0, .int .i64 0, .int .i64 0] 37 (0, 0))
section
variable {w W W' : World} {s : SrvV} {la : Option Addr} {lc : Nat} {sa : Option Addr} {sc : Nat}
theorem SD.start (w : World) (s : SrvV) (la : Option Addr) (lc : Nat) (sa : Option Addr) (sc : Nat) : SD w ((w.alloc (.cells #[.slice la s.ops.length lc, .slice sa s.seen.length sc] 31)).alloc (.cells #[.slice none 0 0, .slice none 0 0, .slice none 0 0, .int .i64 0, .int .i64 0] 37)) s la lc sa sc := by
  refine ⟨(SB.new w s la lc sa sc).step ((Below.refl _ _).alloc (Nat.le_refl _) _), ?_⟩
  have h := heap_alloc_new (w.alloc (.cells #[.slice la s.ops.length lc, .slice sa s.seen.length sc] 31)) (.cells #[.slice none 0 0, .slice none 0 0, .slice none 0 0, .int .i64 0, .int .i64 0] 37)
  rw [show (w.alloc (.cells #[.slice la s.ops.length lc, .slice sa s.seen.length sc] 31)).heap.size = w.heap.size + 1 by simp] at h
  exact h
theorem SD.lt (h : SD w W s la lc sa sc) : w.heap.size + 1 < W.heap.size := (Array.getElem?_eq_some_iff.1 h.res).1
theorem SD.step (h : SD w W s la lc sa sc) (hb : Below W.heap.size W W') : SD w W' s la lc sa sc := ⟨h.sb.step hb, (hb.block _ h.lt).trans h.res⟩
end
theorem base_alloc (x : World) (o : Obj) : x.heap.size ≤ (x.alloc o).heap.size := by rw [World.size_alloc]; exact Nat.le_succ _
theorem len_150 {l : List OpV} (h : l.length ≤ 150) : ([] : List OpV).length + l.length ≤ 4000000 := by rw [List.length_nil]; omega
theorem own_eq {g i n c j : Nat} (h : (Value.slice (some ⟨g, i, none⟩) n c).ownBlock = some j) : g ≤ j := by simp [Value.ownBlock] at h; omega
theorem some_none {x : Addr} {n c : Nat} {P : Prop} (h : Value.slice (some x) n c = .slice none 0 0) : P := by cases h
theorem five_ {w : World} {g : Nat} {v0 v1 v2 v3 v4 : Value} {T : TypeId} (h : w.heap[g]? = some (.cells #[v0, v1, v2, v3, v4] T (0, 0))) : w.cell? ⟨g, 0, none⟩ = some v0 ∧ w.cell? ⟨g, 1, none⟩ = some v1 ∧ w.cell? ⟨g, 2, none⟩ = some v2 ∧ w.cell? ⟨g, 3, none⟩ = some v3 ∧ w.cell? ⟨g, 4, none⟩ = some v4 ∧ ∀ i, w.frozen? ⟨g, i, none⟩ = false := by
  refine ⟨?_, ?_, ?_, ?_, ?_, fun i => by simp [World.frozen?, h]⟩ <;> simp [World.cell?, h]
theorem below5 {B : Nat} {a w : World} (h : Below B a w) {g : Nat} (hg : B ≤ g) (v0 v1 v2 v3 v4 : Value) : Below B a (((((w.setCell ⟨g, 0, none⟩ v0).setCell ⟨g, 1, none⟩ v1).setCell ⟨g, 2, none⟩ v2).setCell ⟨g, 3, none⟩ v3).setCell ⟨g, 4, none⟩ v4) := ((((h.setCell hg _).setCell hg _).setCell hg _).setCell hg _).setCell hg _
theorem other5 {w : World} {g k : Nat} {x : Option Obj} (h : w.heap[k]? = x) (hne : k ≠ g) (v0 v1 v2 v3 v4 : Value) : (((((w.setCell ⟨g, 0, none⟩ v0).setCell ⟨g, 1, none⟩ v1).setCell ⟨g, 2, none⟩ v2).setCell ⟨g, 3, none⟩ v3).setCell ⟨g, 4, none⟩ v4).heap[k]? = x := (Below.heap_setCell _ _ _ _ hne).trans ((Below.heap_setCell _ _ _ _ hne).trans ((Below.heap_setCell _ _ _ _ hne).trans ((Below.heap_setCell _ _ _ _ hne).trans ((Below.heap_setCell _ _ _ _ hne).trans h))))
theorem ops5 {w : World} {g : Nat} {ao : Option Addr} {l : List OpV} (h : OpsAt w ao l) (hne : ∀ a, ao = some a → a.block ≠ g) (v0 v1 v2 v3 v4 : Value) : OpsAt (((((w.setCell ⟨g, 0, none⟩ v0).setCell ⟨g, 1, none⟩ v1).setCell ⟨g, 2, none⟩ v2).setCell ⟨g, 3, none⟩ v3).setCell ⟨g, 4, none⟩ v4) ao l := fun j hj => by
  obtain ⟨b, off, e, hlt, ho⟩ := h j hj
  exact ⟨b, off, e, by simpa using hlt, ho.block (other5 rfl (hne _ e) _ _ _ _ _)⟩
theorem seens5 {w : World} {g : Nat} {ao : Option Addr} {l : List SeenV} (h : SeensAt w ao l) (hne : ∀ a, ao = some a → a.block ≠ g) (v0 v1 v2 v3 v4 : Value) : SeensAt (((((w.setCell ⟨g, 0, none⟩ v0).setCell ⟨g, 1, none⟩ v1).setCell ⟨g, 2, none⟩ v2).setCell ⟨g, 3, none⟩ v3).setCell ⟨g, 4, none⟩ v4) ao l := fun j hj => by
  obtain ⟨b, off, e, hlt, ho⟩ := h j hj
  exact ⟨b, off, e, by simpa using hlt, ho.block (other5 rfl (hne _ e) _ _ _ _ _)⟩
theorem slice_mid (W : World) (g o len cap k n : Nat) (K H : Int) (hK : K = (k : Int)) (hH : H = ((k + n : Nat) : Int)) (h : k + n ≤ cap) :
    (Instr.slice 28 (.slice (some ⟨g, o, none⟩) len cap) (some (.int .i64 K)) (some (.int .i64 H)) none).run Try.prog W = .ok (.slice (some ⟨g, fromOff o cap k, none⟩) n (cap - k)) W := by
  subst hK
  subst hH
  have ht : Try.prog.underlying 28 = some (.slice (Try.prog.elem 28)) := by kernel_rfl
  have hs : ∀ w, (sizeOf (Try.prog.elem 28)).run Try.prog w = .ok 7 w := fun _ => by kernel_rfl
  rw [run_slice_lh W 28 (some ⟨g, o, none⟩) len cap ht .i64 .i64 (k : Int) ((k + n : Nat) : Int) (by omega) (by omega) (by omega), hs]
  have e1 : (((k + n : Nat) : Int) - (k : Int)).toNat = n := by omega
  simp only [Result.andThen, sliced, Int.toNat_natCast, Option.map_some, add_plain]
  unfold fromOff
  by_cases e : cap = k
  · have hn : n = 0 := by omega
    subst hn
    simp [e]
  · simp [e]
set_option maxHeartbeats 400000 in
theorem sMin2_any (x y : Int) (w : World) : Calls Try.prog 33 #[.int .i64 x, .int .i64 y] w fun e w' => e = .returned (.int .i64 (min x y)) ∧ w = w' := by
  by_cases h : x < y
  · have hd : decide (x < y) = true := by simpa using h
    have e : min x y = x := by omega
    rw [e]
    clear h e
    go_enter Try.func33, Try.ntmps33
    go_wp2
    go_ret
    exact ⟨rfl, rfl⟩
  · have hd : decide (x < y) = false := by simpa using h
    have e : min x y = y := by omega
    rw [e]
    clear h e
    go_enter Try.func33, Try.ntmps33
    go_wp2
    go_ret
    exact ⟨rfl, rfl⟩
def codeOf (a : Int) : Int := if a = 1 then 2 else if a = 2 then 1 else if a = 3 then 8 else if a = 4 then 7 else if a = 5 then 9 else 0
theorem code_any (a : Int) (h : 0 ≤ a ∧ a ≤ 5) (w : World) : Calls Try.prog 38 #[.int .i64 a] w fun e w' => e = .returned (.int .i64 (codeOf a)) ∧ w = w' := by
  have e : a = 0 ∨ a = 1 ∨ a = 2 ∨ a = 3 ∨ a = 4 ∨ a = 5 := by omega
  rcases e with rfl | rfl | rfl | rfl | rfl | rfl
  all_goals (
    go_enter Try.func38, Try.ntmps38
    go_wp2
    go_ret
    exact ⟨rfl, rfl⟩)
set_option maxRecDepth 100000 in
set_option maxHeartbeats 1000000 in
theorem sDl_1 (s : SrvV) (b off lc : Nat) (sa : Option Addr) (sc : Nat) (fr most : Int) (w : World) (hz : SSz 1048576 s) (hlc : s.ops.length ≤ lc) (hA : OpsAt w (some ⟨b, off, none⟩) s.ops) (hB : SeensAt w sa s.seen) (hsr : srvRight s = false) :
    Calls Try.prog 21 #[s.agg (some ⟨b, off, none⟩) lc sa sc, .int .i64 fr, .int .i64 most] w fun e w' => SvT w w' e (SOutV.ill 0 1) := by
  have hr := fun W (hW : Below w.heap.size w W) => sSrv_any s (some ⟨b, off, none⟩) sa lc sc W (Nat.le_trans hz.ops (by unfold maxLen; omega)) (fun o ho => ⟨Nat.le_trans (hz.osz o ho).1 (by unfold maxLen; omega), Nat.le_trans (hz.osz o ho).2 (by unfold maxLen; omega)⟩) hz.seen (hA.stays hW) (hB.stays hW)
  have hB0 := SD.start w s (some ⟨b, off, none⟩) lc sa sc
  have HB0 := hide hB0
  obtain ⟨p0, p1⟩ := hB0.sb.cells
  have HA := hide hA
  rw [hsr] at hr
  have HR := hide hr
  unfold SrvV.agg at *
  clear hr hB0 hA hB hz
  go_enter Try.func21, Try.ntmps21
  go_wp2_with (first | (go_at_call 7; (refine (HR.out _ HB0.out.sb.below).mono ?_); rintro e w1 ⟨rfl, hb1⟩; have hB1 := HB0.out.step hb1; have HB1 := hide hB1; clear p0 p1 hb1; obtain ⟨p0, p1⟩ := hB1.sb.cells; obtain ⟨r0, r1, r2, r3, r4, fr_⟩ := five_ hB1.res; clear hB1) | (go_at_call 48; refine (is_any _ _ _ _).mono ?_; rintro e w2 ⟨rfl, rfl⟩) | fail)
  refine bodyPost_ret (v := .agg #[.slice none 0 0, .slice none 0 0, .slice none 0 0, .int .i64 0, .int .i64 1]) (by simp [results, Try.results21, go_sem, r0, r1, r2, r3, r4]) rfl (SvT.ill (below5 HB1.out.sb.below (by omega) _ _ _ _ _))
set_option maxRecDepth 100000 in
set_option maxHeartbeats 1000000 in
theorem sDl_2 (s : SrvV) (b off lc : Nat) (sa : Option Addr) (sc : Nat) (fr most : Int) (w : World) (hz : SSz 1048576 s) (hlc : s.ops.length ≤ lc) (hA : OpsAt w (some ⟨b, off, none⟩) s.ops) (hB : SeensAt w sa s.seen) (hsr : srvRight s = true) (h1 : isIn fr 0 s.ops.length = false) :
    Calls Try.prog 21 #[s.agg (some ⟨b, off, none⟩) lc sa sc, .int .i64 fr, .int .i64 most] w fun e w' => SvT w w' e (SOutV.ill 0 1) := by
  have hr := fun W (hW : Below w.heap.size w W) => sSrv_any s (some ⟨b, off, none⟩) sa lc sc W (Nat.le_trans hz.ops (by unfold maxLen; omega)) (fun o ho => ⟨Nat.le_trans (hz.osz o ho).1 (by unfold maxLen; omega), Nat.le_trans (hz.osz o ho).2 (by unfold maxLen; omega)⟩) hz.seen (hA.stays hW) (hB.stays hW)
  have hB0 := SD.start w s (some ⟨b, off, none⟩) lc sa sc
  have HB0 := hide hB0
  obtain ⟨p0, p1⟩ := hB0.sb.cells
  have HA := hide hA
  rw [hsr] at hr
  have HR := hide hr
  unfold SrvV.agg at *
  clear hr hB0 hA hB hz
  go_enter Try.func21, Try.ntmps21
  go_wp2_with (first | (go_at_call 7; (refine (HR.out _ HB0.out.sb.below).mono ?_); rintro e w1 ⟨rfl, hb1⟩; have hB1 := HB0.out.step hb1; have HB1 := hide hB1; clear p0 p1 hb1; obtain ⟨p0, p1⟩ := hB1.sb.cells; obtain ⟨r0, r1, r2, r3, r4, fr_⟩ := five_ hB1.res; clear hB1) | (go_at_call 48; refine (is_any _ _ _ _).mono ?_; rintro e w2 ⟨rfl, rfl⟩) | fail)
  refine bodyPost_ret (v := .agg #[.slice none 0 0, .slice none 0 0, .slice none 0 0, .int .i64 0, .int .i64 1]) (by simp [results, Try.results21, go_sem, r0, r1, r2, r3, r4]) rfl (SvT.ill (below5 HB1.out.sb.below (by omega) _ _ _ _ _))
set_option maxRecDepth 100000 in
set_option maxHeartbeats 1000000 in
theorem sDl_3 (s : SrvV) (b off lc : Nat) (sa : Option Addr) (sc : Nat) (fr most : Int) (w : World) (hz : SSz 1048576 s) (hlc : s.ops.length ≤ lc) (hA : OpsAt w (some ⟨b, off, none⟩) s.ops) (hB : SeensAt w sa s.seen) (hsr : srvRight s = true) (h1 : isIn fr 0 s.ops.length = true) (h2 : isIn most 0 50 = false) :
    Calls Try.prog 21 #[s.agg (some ⟨b, off, none⟩) lc sa sc, .int .i64 fr, .int .i64 most] w fun e w' => SvT w w' e (SOutV.ill 0 1) := by
  have hr := fun W (hW : Below w.heap.size w W) => sSrv_any s (some ⟨b, off, none⟩) sa lc sc W (Nat.le_trans hz.ops (by unfold maxLen; omega)) (fun o ho => ⟨Nat.le_trans (hz.osz o ho).1 (by unfold maxLen; omega), Nat.le_trans (hz.osz o ho).2 (by unfold maxLen; omega)⟩) hz.seen (hA.stays hW) (hB.stays hW)
  have hB0 := SD.start w s (some ⟨b, off, none⟩) lc sa sc
  have HB0 := hide hB0
  obtain ⟨p0, p1⟩ := hB0.sb.cells
  have HA := hide hA
  rw [hsr] at hr
  have HR := hide hr
  unfold SrvV.agg at *
  clear hr hB0 hA hB hz
  go_enter Try.func21, Try.ntmps21
  go_wp2_with (first | (go_at_call 7; (refine (HR.out _ HB0.out.sb.below).mono ?_); rintro e w1 ⟨rfl, hb1⟩; have hB1 := HB0.out.step hb1; have HB1 := hide hB1; clear p0 p1 hb1; obtain ⟨p0, p1⟩ := hB1.sb.cells; obtain ⟨r0, r1, r2, r3, r4, fr_⟩ := five_ hB1.res; clear hB1) | (go_at_call 48; refine (is_any _ _ _ _).mono ?_; rintro e w2 ⟨rfl, rfl⟩) | fail)
  refine bodyPost_ret (v := .agg #[.slice none 0 0, .slice none 0 0, .slice none 0 0, .int .i64 0, .int .i64 1]) (by simp [results, Try.results21, go_sem, r0, r1, r2, r3, r4]) rfl (SvT.ill (below5 HB1.out.sb.below (by omega) _ _ _ _ _))
set_option maxRecDepth 100000 in
set_option maxHeartbeats 1000000 in
theorem sDl_ok (s : SrvV) (b off lc : Nat) (sa : Option Addr) (sc : Nat) (fr most : Int) (w : World) (hz : SSz 1048576 s) (hlc : s.ops.length ≤ lc) (hA : OpsAt w (some ⟨b, off, none⟩) s.ops) (hB : SeensAt w sa s.seen) (hsr : srvRight s = true) (h1 : isIn fr 0 s.ops.length = true) (h2 : isIn most 0 50 = true) :
    Calls Try.prog 21 #[s.agg (some ⟨b, off, none⟩) lc sa sc, .int .i64 fr, .int .i64 most] w fun e w' => SvT w w' e ⟨SrvV.zero, dlOps s fr most, 0, 0⟩ := by
  have hr := fun W (hW : Below w.heap.size w W) => sSrv_any s (some ⟨b, off, none⟩) sa lc sc W (Nat.le_trans hz.ops (by unfold maxLen; omega)) (fun o ho => ⟨Nat.le_trans (hz.osz o ho).1 (by unfold maxLen; omega), Nat.le_trans (hz.osz o ho).2 (by unfold maxLen; omega)⟩) hz.seen (hA.stays hW) (hB.stays hW)
  have hB0 := SD.start w s (some ⟨b, off, none⟩) lc sa sc
  have HB0 := hide hB0
  obtain ⟨p0, p1⟩ := hB0.sb.cells
  have HA := hide hA
  rw [hsr] at hr
  have hi1 : 0 ≤ fr ∧ fr ≤ (s.ops.length : Int) := by simpa [isIn] using h1
  have hi2 : 0 ≤ most ∧ most ≤ 50 := by simpa [isIn] using h2
  obtain ⟨k, rfl⟩ : ∃ k : Nat, fr = (k : Int) := ⟨fr.toNat, by omega⟩
  obtain ⟨q, rfl⟩ : ∃ q : Nat, most = (q : Int) := ⟨most.toNat, by omega⟩
  obtain ⟨l, hl⟩ : ∃ l, l = (s.ops.drop k).take q := ⟨_, rfl⟩
  have hll : l.length = min q (s.ops.length - k) := by rw [hl, List.length_take, List.length_drop]
  have hR := (srv_iff s).1 hsr
  have h150 := hR.ops.1
  have hwr : wrap64 ((k : Int) + (q : Int)) = (k : Int) + (q : Int) := by unfold wrap64; omega
  have hsl := fun W => slice_mid W b off s.ops.length lc k l.length (k : Int) (min (s.ops.length : Int) ((k : Int) + (q : Int))) rfl (by omega) (by omega)
  have hat : ∀ W, Below w.heap.size w W → OpsAt W (some ⟨b, fromOff off lc k, none⟩) l := fun W hW => by rw [hl]; exact ((hA.stays hW).from k hlc).take q
  have HAt := hide hat
  have HD : Hid (dlOps s (k : Int) (q : Int) = l) := ⟨by rw [hl]; unfold dlOps; rfl⟩
  have hl150 : l.length ≤ 150 := by omega
  have HR := hide hr
  unfold SrvV.agg at *
  clear hr hB0 hA hB hz hl hll hR hat
  go_enter Try.func21, Try.ntmps21
  go_wp2_with (first | (go_at_call 7; (refine (HR.out _ HB0.out.sb.below).mono ?_); rintro e w1 ⟨rfl, hb1⟩; have hB1 := HB0.out.step hb1; have HB1 := hide hB1; clear p0 p1 hb1; obtain ⟨p0, p1⟩ := hB1.sb.cells; obtain ⟨r0, r1, r2, r3, r4, fr_⟩ := five_ hB1.res; have pa : ∀ o, (w1.alloc o).cell? ⟨w.heap.size, 0, none⟩ = some (.slice (some ⟨b, off, none⟩) s.ops.length lc) := fun o => (World.cell?_alloc_lt _ _ _ (Nat.lt_trans (Nat.lt_succ_self _) hB1.lt)).trans p0; clear hB1) | (go_at_call 48; refine (is_any _ _ _ _).mono ?_; rintro e w2 ⟨rfl, rfl⟩) | (go_at_call 33; refine (sMin2_any _ _ _).mono ?_; rintro e w3 ⟨rfl, rfl⟩) | (at_builtin; refine wpList_append_ops rfl _ _ rfl w1.heap.size _ [] rfl (empty_row w1) (some ⟨b, fromOff off lc k, none⟩) l (lc - k) rfl (HAt.out _ (HB1.out.sb.below.alloc HB1.out.sb.below.size _)) (len_150 hl150) (base_alloc _ _) ?_; intro v4 w4 hown4 hgr4 hne4; have hne5 : v4 ≠ .slice none 0 0 := fun e => some_none (hne4.1 e).1; have hO4 : OwnAt w4 w1.heap.size 65 v4 l := ⟨hown4, hne5⟩; obtain ⟨g4, c4, rfl, hg4, hlt4, _, _, hat4⟩ := hO4.at; have HX4 := hide (And.intro hg4 (And.intro hlt4 hat4)); have hq4 : Below w1.heap.size w1 w4 := ((Below.refl _ _).alloc (Nat.le_refl _) _).grown hgr4 (base_alloc _ _) (fun j hj => own_eq hj); have hB4 := HB1.out.step hq4; have HB4 := hide hB4; clear hown4 hgr4 hne4 hne5 hO4 hg4 hlt4 hat4 hq4 p0 p1 pa r0 r1 r2 r3 r4 fr_; obtain ⟨r0, r1, r2, r3, r4, fr_⟩ := five_ hB4.res; clear hB4) | fail)
  have hx := HX4.out
  have hlt := HB1.out.lt
  refine bodyPost_ret (v := .agg #[.slice none 0 0, .slice none 0 0, .slice (some ⟨g4, 0, none⟩) l.length c4, .int .i64 0, .int .i64 0]) (by simp [results, Try.results21, go_sem, r0, r1, r2, r3, r4]) rfl ?_
  rw [HD.out]
  exact ⟨none, 0, none, 0, some ⟨g4, 0, none⟩, c4, rfl, no_ops, SeensAt.none_ _, ops5 hx.2.2 (fun a e => by cases e; show g4 ≠ _; omega) _ _ _ _ _, below5 HB4.out.sb.below (by omega) _ _ _ _ _⟩
/-- What spec.Download answers. -/
theorem sDl_any (s : SrvV) (b off lc : Nat) (sa : Option Addr) (sc : Nat) (fr most : Int) (w : World) (hz : SSz 1048576 s) (hlc : s.ops.length ≤ lc) (hA : OpsAt w (some ⟨b, off, none⟩) s.ops) (hB : SeensAt w sa s.seen) : Calls Try.prog 21 #[s.agg (some ⟨b, off, none⟩) lc sa sc, .int .i64 fr, .int .i64 most] w fun e w' => SvT w w' e (dlRes s fr most) := by
  unfold dlRes
  cases hsr : srvRight s
  · exact sDl_1 s b off lc sa sc fr most w hz hlc hA hB hsr
  cases h1 : isIn fr 0 s.ops.length
  · exact sDl_2 s b off lc sa sc fr most w hz hlc hA hB hsr h1
  cases h2 : isIn most 0 50
  · exact sDl_3 s b off lc sa sc fr most w hz hlc hA hB hsr h1 h2
  exact sDl_ok s b off lc sa sc fr most w hz hlc hA hB hsr h1 h2
end Go.Proofs.Ytkfjommoogmehaa.OpR
