/- Proves what spec.Download and impl.Download answer. Proves what impl.Download answers. Proves the walk of the law FnExactServerRight. What was told of servers, in variables of a law. Proves what spec.l07Many answers: how many ops of a replica a server has seen. Proves what impl asks of ops sent up. Proves what impl.fresh answers: of ops sent up, those that were not seen yet. Proves what slices.Grow makes of no ops: room. Proves what slices.Concat makes of two rows of ops. Proves what the harness does with a client's rows: they are marked, and the marks are looked at. Proves what impl makes of a server at work: an answer of its own. Proves what impl's (*serving).take tells, and what it makes of the server at work. Proves what impl's (*serving).take does where it takes. Proves what impl.Upload answers where it refuses ahead of taking. -/
import Derived.Test.YtdjjpaleemnikaaSrvO
import Derived.Test.YtdjjpaleemnikaaSrvS
import Derived.Test.YtdjjpaleemnikaaOwnW
import Derived.Test.YtdjjpaleemnikaaSrvH
import Derived.Test.YtdjjpaleemnikaaCliBy
import Derived.Test.YtdjjpaleemnikaaIOps
import Derived.Test.YtdjjpaleemnikaaSortX
import Derived.Test.YtdjjpaleemnikaaSgW
import Derived.Test.YtdjjpaleemnikaaRowO
import Derived.Lib.AppendZerosOnto
import Derived.Test.YtdjjpaleemnikaaCliH
import Derived.Test.YtdjjpaleemnikaaHeldS
import Derived.Test.YtdjjpaleemnikaaOutW
import Derived.Test.YtdjjpaleemnikaaSgX
namespace Go.Proofs.Ytdjjpaleemnikaa.OpR
open Go.ChangeShapes Go.WideShapes Go.ChangeAt Go.RowKit
set_option linter.unusedVariables false

/-- What a server sends down. -/
def dlOps (s : SrvV) (fr most : Int) : List OpV := (s.ops.drop fr.toNat).take most.toNat
def dlRes (s : SrvV) (fr most : Int) : SOutV :=
  if (srvRight s && (isIn fr 0 s.ops.length && isIn most 0 50)) = false then SOutV.ill 0 1 else ⟨SrvV.zero, dlOps s fr most, 0, 0⟩
/-- What spec tells. -/
def SvT (w w' : World) (e : Ending) (x : SOutV) : Prop := ∃ la lc sa sc oa oc, e = .returned (x.agg la lc sa sc oa oc) ∧ OpsAt w' la x.srv.ops ∧ SeensAt w' sa x.srv.seen ∧ OpsAt w' oa x.ops ∧ Below w.heap.size w w'
/-- What impl tells. -/
def IvT (w w' : World) (e : Ending) (x : SOutV) : Prop := ∃ la lc sa sc oa oc, e = .returned (x.agg la lc sa sc oa oc) ∧ OpsAt w' la x.srv.ops ∧ SeensAt w' sa x.srv.seen ∧ OpsAt w' oa x.ops ∧ MarkSO w' x la sa oa ∧ (∀ a, la = some a → w.heap.size ≤ a.block) ∧ (∀ a, sa = some a → w.heap.size ≤ a.block) ∧ (∀ a, oa = some a → w.heap.size ≤ a.block) ∧ Below w.heap.size w w'
theorem no_ops {w : World} : OpsAt w none [] := fun j hj => absurd hj (by simp)
theorem SvT.ill {w w' : World} {many code : Int} (hb : Below w.heap.size w w') : SvT w w' (.returned ((SOutV.ill many code).agg none 0 none 0 none 0)) (SOutV.ill many code) := ⟨none, 0, none, 0, none, 0, rfl, no_ops, SeensAt.none_ _, no_ops, hb⟩
theorem IvT.ill {w w' : World} {many code : Int} (hb : Below w.heap.size w w') : IvT w w' (.returned ((SOutV.ill many code).agg none 0 none 0 none 0)) (SOutV.ill many code) := ⟨none, 0, none, 0, none, 0, rfl, no_ops, SeensAt.none_ _, no_ops, MarkSO.none_ _ _ _, fun a e => (by cases e), fun a e => (by cases e), fun a e => (by cases e), hb⟩
/-- A server, and the answer's own. -/
structure SD (w W : World) (s : SrvV) (la : Option Addr) (lc : Nat) (sa : Option Addr) (sc : Nat) : Prop where
  sb : SB w W s la lc sa sc
  res : W.heap[w.heap.size + 1]? = some (.cells #[.slice none 0 0, .slice none 0 0, .slice none 0 0, .int .i64 0, .int .i64 0] 33 (0, 0))
section
variable {w W W' : World} {s : SrvV} {la : Option Addr} {lc : Nat} {sa : Option Addr} {sc : Nat}
theorem SD.start (w : World) (s : SrvV) (la : Option Addr) (lc : Nat) (sa : Option Addr) (sc : Nat) : SD w ((w.alloc (.cells #[.slice la s.ops.length lc, .slice sa s.seen.length sc] 31)).alloc (.cells #[.slice none 0 0, .slice none 0 0, .slice none 0 0, .int .i64 0, .int .i64 0] 33)) s la lc sa sc := by
  refine ⟨(SB.new w s la lc sa sc).step ((Below.refl _ _).alloc (Nat.le_refl _) _), ?_⟩
  have h := heap_alloc_new (w.alloc (.cells #[.slice la s.ops.length lc, .slice sa s.seen.length sc] 31)) (.cells #[.slice none 0 0, .slice none 0 0, .slice none 0 0, .int .i64 0, .int .i64 0] 33)
  rw [show (w.alloc (.cells #[.slice la s.ops.length lc, .slice sa s.seen.length sc] 31)).heap.size = w.heap.size + 1 by simp] at h
  exact h
theorem SD.lt (h : SD w W s la lc sa sc) : w.heap.size + 1 < W.heap.size := (Array.getElem?_eq_some_iff.1 h.res).1
theorem SD.step (h : SD w W s la lc sa sc) (hb : Below W.heap.size W W') : SD w W' s la lc sa sc := ⟨h.sb.step hb, (hb.block _ h.lt).trans h.res⟩
end
theorem base_alloc (x : World) (o : Obj) : x.heap.size ≤ (x.alloc o).heap.size := by rw [World.size_alloc]; exact Nat.le_succ _
theorem len_150 {l : List OpV} (h : l.length ≤ 150) : ([] : List OpV).length + l.length ≤ 4000000 := by rw [List.length_nil]; omega
theorem own_eq {g i n c j : Nat} (h : (Value.slice (some ⟨g, i, none⟩) n c).ownBlock = some j) : g ≤ j := by simp [Value.ownBlock] at h; omega
theorem some_none {x : Addr} {n c : Nat} {P : Prop} (h : Value.slice (some x) n c = .slice none 0 0) : P := by cases h
theorem five_ {w : World} {g : Nat} {v0 v1 v2 v3 v4 : Value} {T : TypeId} (h : w.heap[g]? = some (.cells #[v0, v1, v2, v3, v4] T (0, 0))) : w.cell? ⟨g, 0, none⟩ = some v0 ∧ w.cell? ⟨g, 1, none⟩ = some v1 ∧ w.cell? ⟨g, 2, none⟩ = some v2 ∧ w.cell? ⟨g, 3, none⟩ = some v3 ∧ w.cell? ⟨g, 4, none⟩ = some v4 ∧ ∀ i, w.frozen? ⟨g, i, none⟩ = false := by
  refine ⟨?_, ?_, ?_, ?_, ?_, fun i => by simp [World.frozen?, h]⟩ <;> simp [World.cell?, h]
theorem below5 {B : Nat} {a w : World} (h : Below B a w) {g : Nat} (hg : B ≤ g) (v0 v1 v2 v3 v4 : Value) : Below B a (((((w.setCell ⟨g, 0, none⟩ v0).setCell ⟨g, 1, none⟩ v1).setCell ⟨g, 2, none⟩ v2).setCell ⟨g, 3, none⟩ v3).setCell ⟨g, 4, none⟩ v4) := ((((h.setCell hg _).setCell hg _).setCell hg _).setCell hg _).setCell hg _
theorem other5 {w : World} {g k : Nat} {x : Option Obj} (h : w.heap[k]? = x) (hne : k ≠ g) (v0 v1 v2 v3 v4 : Value) : (((((w.setCell ⟨g, 0, none⟩ v0).setCell ⟨g, 1, none⟩ v1).setCell ⟨g, 2, none⟩ v2).setCell ⟨g, 3, none⟩ v3).setCell ⟨g, 4, none⟩ v4).heap[k]? = x := (Below.heap_setCell _ _ _ _ hne).trans ((Below.heap_setCell _ _ _ _ hne).trans ((Below.heap_setCell _ _ _ _ hne).trans ((Below.heap_setCell _ _ _ _ hne).trans ((Below.heap_setCell _ _ _ _ hne).trans h))))
theorem ops5 {w : World} {g : Nat} {ao : Option Addr} {l : List OpV} (h : OpsAt w ao l) (hne : ∀ a, ao = some a → a.block ≠ g) (v0 v1 v2 v3 v4 : Value) : OpsAt (((((w.setCell ⟨g, 0, none⟩ v0).setCell ⟨g, 1, none⟩ v1).setCell ⟨g, 2, none⟩ v2).setCell ⟨g, 3, none⟩ v3).setCell ⟨g, 4, none⟩ v4) ao l := fun j hj => by
  obtain ⟨b, off, e, hlt, ho⟩ := h j hj
  exact ⟨b, off, e, by simpa using hlt, ho.block (other5 rfl (hne _ e) _ _ _ _ _)⟩
theorem seens5 {w : World} {g : Nat} {ao : Option Addr} {l : List SeenV} (h : SeensAt w ao l) (hne : ∀ a, ao = some a → a.block ≠ g) (v0 v1 v2 v3 v4 : Value) : SeensAt (((((w.setCell ⟨g, 0, none⟩ v0).setCell ⟨g, 1, none⟩ v1).setCell ⟨g, 2, none⟩ v2).setCell ⟨g, 3, none⟩ v3).setCell ⟨g, 4, none⟩ v4) ao l := fun j hj => by
  obtain ⟨b, off, e, hlt, ho⟩ := h j hj
  exact ⟨b, off, e, by simpa using hlt, ho.block (other5 rfl (hne _ e) _ _ _ _ _)⟩
theorem slice_mid (W : World) (g o len cap k n : Nat) (K H : Int) (hK : K = (k : Int)) (hH : H = ((k + n : Nat) : Int)) (h : k + n ≤ cap) :
    (Instr.slice 28 (.slice (some ⟨g, o, none⟩) len cap) (some (.int .i64 K)) (some (.int .i64 H)) none).run Try.prog W = .ok (.slice (some ⟨g, fromOff o cap k, none⟩) n (cap - k)) W := by
  subst hK
  subst hH
  have ht : Try.prog.underlying 28 = some (.slice (Try.prog.elem 28)) := by kernel_rfl
  have hs : ∀ w, (sizeOf (Try.prog.elem 28)).run Try.prog w = .ok 7 w := fun _ => by kernel_rfl
  rw [run_slice_lh W 28 (some ⟨g, o, none⟩) len cap ht .i64 .i64 (k : Int) ((k + n : Nat) : Int) (by omega) (by omega) (by omega), hs]
  have e1 : (((k + n : Nat) : Int) - (k : Int)).toNat = n := by omega
  simp only [Result.andThen, sliced, Int.toNat_natCast, Option.map_some, add_plain]
  unfold fromOff
  by_cases e : cap = k
  · have hn : n = 0 := by omega
    subst hn
    simp [e]
  · simp [e]
set_option maxHeartbeats 400000 in
theorem sMin2_any (x y : Int) (w : World) : Calls Try.prog 30 #[.int .i64 x, .int .i64 y] w fun e w' => e = .returned (.int .i64 (min x y)) ∧ w = w' := by
  by_cases h : x < y
  · have hd : decide (x < y) = true := by simpa using h
    have e : min x y = x := by omega
    rw [e]
    clear h e
    go_enter Try.func30, Try.ntmps30
    go_wp2
    go_ret
    exact ⟨rfl, rfl⟩
  · have hd : decide (x < y) = false := by simpa using h
    have e : min x y = y := by omega
    rw [e]
    clear h e
    go_enter Try.func30, Try.ntmps30
    go_wp2
    go_ret
    exact ⟨rfl, rfl⟩
def codeOf (a : Int) : Int := if a = 1 then 2 else if a = 2 then 1 else if a = 3 then 8 else if a = 4 then 7 else if a = 5 then 9 else 0
theorem code_any (a : Int) (h : 0 ≤ a ∧ a ≤ 5) (w : World) : Calls Try.prog 37 #[.int .i64 a] w fun e w' => e = .returned (.int .i64 (codeOf a)) ∧ w = w' := by
  have e : a = 0 ∨ a = 1 ∨ a = 2 ∨ a = 3 ∨ a = 4 ∨ a = 5 := by omega
  rcases e with rfl | rfl | rfl | rfl | rfl | rfl
  all_goals (
    go_enter Try.func37, Try.ntmps37
    go_wp2
    go_ret
    exact ⟨rfl, rfl⟩)
end Go.Proofs.Ytdjjpaleemnikaa.OpR
namespace Go.Proofs.Ytdjjpaleemnikaa.OpR
open Go.ChangeShapes Go.WideShapes Go.ChangeAt Go.RowKit
set_option linter.unusedVariables false

/-- What ownOps makes, told without the world's size. -/
theorem own_ex (l : List OpV) (ao : Option Addr) (cap : Nat) (w : World) (hl : l.length ≤ 1048576) (hA : OpsAt w ao l) (hS : ∀ o ∈ l, o.name.size ≤ 1048576 ∧ o.value.size ≤ 1048576) :
    Calls Try.prog 65 #[.slice ao l.length cap] w fun e w' => ∃ g, e = .returned (.slice (some ⟨g, 0, none⟩) l.length l.length) ∧ w.heap.size ≤ g ∧ OpsIn w' g 59 l ∧ Below w.heap.size w w' :=
  (own_any l ao cap w hl hA hS).mono fun e w' h => ⟨_, h.1, Nat.le_refl _, h.2.1, h.2.2⟩
theorem in_mark {w : World} {g : Nat} {l : List OpV} (h : OpsIn w g 59 l) : MarkOk w (some ⟨g, 0, none⟩) l.length := .inl ⟨g, _, rfl, Nat.le_refl _, opsArr l, h, opsArr_size l⟩
theorem in5 {w : World} {g k : Nat} {l : List OpV} (h : OpsIn w k 59 l) (hne : k ≠ g) (v0 v1 v2 v3 v4 : Value) : OpsIn (((((w.setCell ⟨g, 0, none⟩ v0).setCell ⟨g, 1, none⟩ v1).setCell ⟨g, 2, none⟩ v2).setCell ⟨g, 3, none⟩ v3).setCell ⟨g, 4, none⟩ v4) k 59 l := h.block (other5 rfl hne _ _ _ _ _)
end Go.Proofs.Ytdjjpaleemnikaa.OpR
namespace Go.Proofs.Ytdjjpaleemnikaa.OpR
open Go.ChangeShapes Go.WideShapes Go.ChangeAt Go.RowKit
set_option linter.unusedVariables false

end Go.Proofs.Ytdjjpaleemnikaa.OpR
namespace Go.Proofs.Ytdjjpaleemnikaa.OpR
open Go.ChangeShapes Go.WideShapes Go.ChangeAt Go.RowKit
set_option linter.unusedVariables false

/-- What spec told lies in a world, and that world stands below. -/
structure NO (w N W : World) (V : Nat) (s : SrvV) (la : Option Addr) (lc : Nat) (sa : Option Addr) (sc : Nat) (x : SOutV) (sl : Option Addr) (slc : Nat) (ss : Option Addr) (ssc : Nat) (so : Option Addr) (soc : Nat) : Prop where
  sv : SL w N s la lc sa sc
  fif : Fiv N V x sl slc ss ssc so soc
  ops_ : OpsAt N sl x.srv.ops
  seen_ : SeensAt N ss x.srv.seen
  out_ : OpsAt N so x.ops
  low : Below N.heap.size N W
section
variable {w N W W' : World} {V : Nat} {s : SrvV} {la : Option Addr} {lc : Nat} {sa : Option Addr} {sc : Nat} {x : SOutV} {sl : Option Addr} {slc : Nat} {ss : Option Addr} {ssc : Nat} {so : Option Addr} {soc : Nat}
theorem NO.new {W : World} (h : SL w W s la lc sa sc) (h1 : OpsAt W sl x.srv.ops) (h2 : SeensAt W ss x.srv.seen) (h3 : OpsAt W so x.ops) : NO w (W.alloc (.cells #[.slice sl x.srv.ops.length slc, .slice ss x.srv.seen.length ssc, .slice so x.ops.length soc, .int .i64 x.many, .int .i64 x.code] 33)) (W.alloc (.cells #[.slice sl x.srv.ops.length slc, .slice ss x.srv.seen.length ssc, .slice so x.ops.length soc, .int .i64 x.many, .int .i64 x.code] 33)) W.heap.size s la lc sa sc x sl slc ss ssc so soc :=
  have hb := (Below.refl W.heap.size W).alloc (Nat.le_refl _) (.cells #[.slice sl x.srv.ops.length slc, .slice ss x.srv.seen.length ssc, .slice so x.ops.length soc, .int .i64 x.many, .int .i64 x.code] 33)
  ⟨h.step hb, Fiv.new W x sl slc ss ssc so soc, h1.stays hb, h2.stays hb, h3.stays hb, Below.refl _ _⟩
theorem NO.step (h : NO w N W V s la lc sa sc x sl slc ss ssc so soc) (hb : Below W.heap.size W W') : NO w N W' V s la lc sa sc x sl slc ss ssc so soc := ⟨h.sv, h.fif, h.ops_, h.seen_, h.out_, h.low.trans (hb.mono h.low.size)⟩
theorem NO.drew (h : NO w N W V s la lc sa sc x sl slc ss ssc so soc) : NO w N W.drew V s la lc sa sc x sl slc ss ssc so soc := h.step (Below.refl _ W).drew
theorem NO.marked {rs : List (Option Addr)} (h : NO w N W V s la lc sa sc x sl slc ss ssc so soc) (hm : MarkedL rs W W') (hr : ∀ b ∈ rs, ∀ a, b = some a → N.heap.size ≤ a.block) : NO w N W' V s la lc sa sc x sl slc ss ssc so soc := ⟨h.sv, h.fif, h.ops_, h.seen_, h.out_, hm.below h.low h.low.size hr⟩
theorem NO.below (h : NO w N W V s la lc sa sc x sl slc ss ssc so soc) : Below w.heap.size w W := (h.sv.step h.low).below
theorem NO.p (h : NO w N W V s la lc sa sc x sl slc ss ssc so soc) : W.cell? ⟨w.heap.size, 0, none⟩ = some (.slice la s.ops.length lc) ∧ W.cell? ⟨w.heap.size, 1, none⟩ = some (.slice sa s.seen.length sc) := (h.sv.step h.low).cells
theorem NO.q (h : NO w N W V s la lc sa sc x sl slc ss ssc so soc) : W.cell? ⟨V, 0, none⟩ = some (.slice sl x.srv.ops.length slc) ∧ W.cell? ⟨V, 1, none⟩ = some (.slice ss x.srv.seen.length ssc) ∧ W.cell? ⟨V, 2, none⟩ = some (.slice so x.ops.length soc) ∧ W.cell? ⟨V, 3, none⟩ = some (.int .i64 x.many) ∧ W.cell? ⟨V, 4, none⟩ = some (.int .i64 x.code) := (h.fif.step h.low).cells
theorem NO.ops (h : NO w N W V s la lc sa sc x sl slc ss ssc so soc) : OpsAt W sl x.srv.ops := h.ops_.stays h.low
theorem NO.seen (h : NO w N W V s la lc sa sc x sl slc ss ssc so soc) : SeensAt W ss x.srv.seen := h.seen_.stays h.low
theorem NO.out (h : NO w N W V s la lc sa sc x sl slc ss ssc so soc) : OpsAt W so x.ops := h.out_.stays h.low
theorem NO.lt (h : NO w N W V s la lc sa sc x sl slc ss ssc so soc) : N.heap.size ≤ W.heap.size := h.low.size
end
/-- What impl told, in a variable: none of it below N. -/
structure GO (N : Nat) (W : World) (V : Nat) (x : SOutV) (gl : Option Addr) (glc : Nat) (gs : Option Addr) (gsc : Nat) (go : Option Addr) (goc : Nat) : Prop where
  fif : Fiv W V x gl glc gs gsc go goc
  ops : OpsAt W gl x.srv.ops
  seen : SeensAt W gs x.srv.seen
  out : OpsAt W go x.ops
  mrk : MarkSO W x gl gs go
  ne : ∀ b ∈ [gl, gs, go], ∀ a, b = some a → N ≤ a.block ∧ a.block < V
  low : N ≤ V
section
variable {N : Nat} {W W' : World} {V : Nat} {x : SOutV} {gl : Option Addr} {glc : Nat} {gs : Option Addr} {gsc : Nat} {go : Option Addr} {goc : Nat}
theorem GO.new {W : World} (h1 : OpsAt W gl x.srv.ops) (h2 : SeensAt W gs x.srv.seen) (h3 : OpsAt W go x.ops) (h4 : MarkSO W x gl gs go) (a1 : ∀ a, gl = some a → N ≤ a.block) (a2 : ∀ a, gs = some a → N ≤ a.block) (a3 : ∀ a, go = some a → N ≤ a.block) (h6 : N ≤ W.heap.size) : GO N (W.alloc (.cells #[.slice gl x.srv.ops.length glc, .slice gs x.srv.seen.length gsc, .slice go x.ops.length goc, .int .i64 x.many, .int .i64 x.code] 33)) W.heap.size x gl glc gs gsc go goc :=
  have hb := (Below.refl W.heap.size W).alloc (Nat.le_refl _) (.cells #[.slice gl x.srv.ops.length glc, .slice gs x.srv.seen.length gsc, .slice go x.ops.length goc, .int .i64 x.many, .int .i64 x.code] 33)
  ⟨Fiv.new W x gl glc gs gsc go goc, h1.stays hb, h2.stays hb, h3.stays hb, h4.below hb, fun b hm a e => by
    rcases List.mem_cons.1 hm with rfl | hm
    · exact ⟨a1 a e, h4.srv.ops.lt_ a e⟩
    rcases List.mem_cons.1 hm with rfl | hm
    · exact ⟨a2 a e, h4.srv.seen.lt a e⟩
    obtain rfl := List.mem_singleton.1 hm
    exact ⟨a3 a e, h4.ops.lt_ a e⟩, h6⟩
theorem GO.step (h : GO N W V x gl glc gs gsc go goc) (hb : Below W.heap.size W W') : GO N W' V x gl glc gs gsc go goc := ⟨h.fif.step hb, h.ops.stays hb, h.seen.stays hb, h.out.stays hb, h.mrk.below hb, h.ne, h.low⟩
theorem GO.cells (h : GO N W V x gl glc gs gsc go goc) : W.cell? ⟨V, 0, none⟩ = some (.slice gl x.srv.ops.length glc) ∧ W.cell? ⟨V, 1, none⟩ = some (.slice gs x.srv.seen.length gsc) ∧ W.cell? ⟨V, 2, none⟩ = some (.slice go x.ops.length goc) ∧ W.cell? ⟨V, 3, none⟩ = some (.int .i64 x.many) ∧ W.cell? ⟨V, 4, none⟩ = some (.int .i64 x.code) := h.fif.cells
theorem GO.marked {rs : List (Option Addr)} (h : GO N W V x gl glc gs gsc go goc) (hm : MarkedL rs W W') (hr : ∀ b ∈ rs, ∀ a, b = some a → a.block < N) : GO N W' V x gl glc gs gsc go goc :=
  have ap : ∀ c ∈ [gl, gs, go], ApartL rs c := fun c hc b hb y z e1 e2 => by have := hr b hb y e1; have := (h.ne c hc z e2).1; omega
  have p1 := ap gl (by simp)
  have p2 := ap gs (by simp)
  have p3 := ap go (by simp)
  ⟨h.fif.keep (hm.block _ h.fif.lt (fun b hb a e => by have := hr b hb a e; have := h.low; omega)), h.ops.markedL hm p1, h.seen.markedL hm p2, h.out.markedL hm p3, h.mrk.markedL hm p1 p2 p3, h.ne, h.low⟩
end
/-- The same with its rows marked. -/
structure MO (W : World) (V : Nat) (x : SOutV) (gl : Option Addr) (glc : Nat) (gs : Option Addr) (gsc : Nat) (go : Option Addr) (goc : Nat) : Prop where
  fif : Fiv W V x gl glc gs gsc go goc
  ops : OpsAt W gl (marks 1 x.srv.ops.length)
  seen : SeensAt W gs (marksE (1 + 7 * x.srv.ops.length) x.srv.seen.length)
  out : OpsAt W go (marks (1 + 7 * x.srv.ops.length + 2 * x.srv.seen.length) x.ops.length)
section
variable {N : Nat} {W W' : World} {V : Nat} {x : SOutV} {gl : Option Addr} {glc : Nat} {gs : Option Addr} {gsc : Nat} {go : Option Addr} {goc : Nat}
theorem GO.own (h : GO N W V x gl glc gs gsc go goc) (hm : MarkedL [gl, gs, go] W W') (h1 : OpsAt W' gl (marks 1 x.srv.ops.length)) (h2 : SeensAt W' gs (marksE (1 + 7 * x.srv.ops.length) x.srv.seen.length)) (h3 : OpsAt W' go (marks (1 + 7 * x.srv.ops.length + 2 * x.srv.seen.length) x.ops.length)) : MO W' V x gl glc gs gsc go goc :=
  ⟨h.fif.keep (hm.block _ h.fif.lt (fun b hb a e => by have := (h.ne b hb a e).2; omega)), h1, h2, h3⟩
theorem MO.step (h : MO W V x gl glc gs gsc go goc) (hb : Below W.heap.size W W') : MO W' V x gl glc gs gsc go goc := ⟨h.fif.step hb, h.ops.stays hb, h.seen.stays hb, h.out.stays hb⟩
theorem MO.cells (h : MO W V x gl glc gs gsc go goc) : W.cell? ⟨V, 0, none⟩ = some (.slice gl x.srv.ops.length glc) ∧ W.cell? ⟨V, 1, none⟩ = some (.slice gs x.srv.seen.length gsc) ∧ W.cell? ⟨V, 2, none⟩ = some (.slice go x.ops.length goc) ∧ W.cell? ⟨V, 3, none⟩ = some (.int .i64 x.many) ∧ W.cell? ⟨V, 4, none⟩ = some (.int .i64 x.code) := h.fif.cells
end
theorem seenIn_mark {W : World} {g : Nat} {l : List SeenV} (h : InG SeenV.cells W g 67 l) : MarkE W (some ⟨g, 0, none⟩) l.length := .inl ⟨g, l.length * 2, rfl, Nat.le_refl _, (flatG SeenV.cells l).toArray, h, by rw [List.size_toArray]; exact flatG_len (cs := SeenV.cells) (c := 2) (fun _ => rfl) l⟩
theorem mark_sv {W : World} {s : SrvV} {g3 g4 : Nat} (h3 : OpsIn W g3 59 s.ops) (h4 : InG SeenV.cells W g4 67 s.seen) (hne : g3 < g4) : MarkSv W s (some ⟨g3, 0, none⟩) (some ⟨g4, 0, none⟩) :=
  ⟨in_mark h3, seenIn_mark h4, fun x y ex ey => by cases ex; cases ey; show g3 ≠ g4; omega⟩
end Go.Proofs.Ytdjjpaleemnikaa.OpR
namespace Go.Proofs.Ytdjjpaleemnikaa.OpR
open Go.ChangeShapes Go.WideShapes Go.ChangeAt Go.RowKit
set_option linter.unusedVariables false

def seenMany (l : List SeenV) (r : Int) : Int := match l.find? (fun x => decide (x.repl = r)) with
  | some x => x.many
  | none => 0
theorem many_cons (x : SeenV) (l : List SeenV) (r : Int) : seenMany (x :: l) r = if x.repl = r then x.many else seenMany l r := by
  unfold seenMany
  rw [List.find?_cons]
  by_cases h : x.repl = r <;> simp [h]
theorem many_drop {l : List SeenV} {k : Nat} (h : k < l.length) (r : Int) : seenMany (l.drop k) r = if l[k].repl = r then l[k].many else seenMany (l.drop (k + 1)) r := by
  rw [List.drop_eq_getElem_cons h, many_cons]
set_option maxRecDepth 100000 in
set_option maxHeartbeats 1000000 in
theorem sMany_any (s : SrvV) (la sa : Option Addr) (lc sc : Nat) (r : Int) (w : World) (hl : s.seen.length ≤ 1048576) (hB : SeensAt w sa s.seen) :
    Calls Try.prog 29 #[s.agg la lc sa sc, .int .i64 r] w fun e w' => e = .returned (.int .i64 (seenMany s.seen r)) ∧ Below w.heap.size w w' := by
  have HB0 := hide (SB.new w s la lc sa sc)
  have HB := hide hB
  obtain ⟨tot, ht⟩ : ∃ t, t = seenMany s.seen r := ⟨_, rfl⟩
  rw [← ht]
  have HT := hide ht
  unfold SrvV.agg
  clear hB ht
  go_enter Try.func29, Try.ntmps29
  go_wp2
  go_loopw [5] (fun i wr => ∃ k : Nat, k ≤ s.seen.length ∧ i = .int .i64 k ∧ tot = seenMany (s.seen.drop k) r ∧ SB w wr s la lc sa sc) (fun i _ => s.seen.length - (intOf i).toNat)
  case atStart => exact ⟨0, by omega, rfl, HT.out, HB0.out⟩
  case round =>
    obtain ⟨k, hk, rfl, ht, hSB⟩ := hrel
    obtain ⟨p0, p1⟩ := hSB.cells
    have HT := hide ht
    have HSB := hide hSB
    clear ht hSB
    by_cases h : k < s.seen.length
    · obtain ⟨b, off, rfl, hlt, hs0⟩ := HB.out k h
      obtain ⟨c0, c1⟩ := hs0.block (w' := wr) (HSB.out.below.block b hlt)
      have hi0 : (0 : Int) ≤ (k : Int) := by omega
      have hi1 : (k : Int) < (s.seen.length : Int) := by omega
      have hmd := hide (many_drop h r)
      clear hs0
      by_cases hr : s.seen[k].repl = r
      · have hr' : (s.seen[k].repl == r) = true := by simp [hr]
        have HR := hide hr
        clear hr
        go_wp2
        go_ret
        exact ⟨by rw [HT.out, hmd.out, if_pos HR.out]; rfl, HSB.out.below⟩
      · have hr' : (s.seen[k].repl == r) = false := by simp [hr]
        have HR := hide hr
        clear hr
        go_wp2
        go_roundw
        case rel => exact ⟨k + 1, by omega, by go_num, by rw [HT.out, hmd.out, if_neg HR.out], HSB.out⟩
        case measure => simp [intOf]; omega
    · obtain rfl : k = s.seen.length := by omega
      go_wp2
      go_ret
      exact ⟨by rw [HT.out, List.drop_length]; rfl, HSB.out.below⟩
end Go.Proofs.Ytdjjpaleemnikaa.OpR
namespace Go.Proofs.Ytdjjpaleemnikaa.OpR
open Go.ChangeShapes Go.WideShapes Go.ChangeAt Go.RowKit
set_option linter.unusedVariables false

/-- May it be sent up? -/
def sentR (r fr : Int) (l : List OpV) : Bool := isIn r 1 50 && (decide (0 ≤ fr) && (logRight l && decide ((ownB l r).length = l.length)))
theorem bool_ret {a b : Bool} (h : a = b) : Ending.returned (.bool a) = .returned (.bool b) := by rw [h]
set_option maxRecDepth 100000 in
set_option maxHeartbeats 1000000 in
theorem sent_any (r fr : Int) (l : List OpV) (ao : Option Addr) (cap : Nat) (w : World) (hl : l.length ≤ 1048576) (hA : OpsAt w ao l) (hS : Sized l) :
    Calls Try.prog 39 #[.int .i64 r, .int .i64 fr, .slice ao l.length cap] w fun e w' => e = .returned (.bool (sentR r fr l)) ∧ Below w.heap.size w w' := by
  have h1 := iLog_any l ao cap w (by unfold maxLen; omega) hA hS
  have h2 := fun W (hW : Below w.heap.size w W) => fun (hh : l.length ≤ 150) => by_any l ao cap r W hh (hA.stays hW)
  have HBy := hide h2
  cases hr : isIn r 1 50
  · have HF : Hid (sentR r fr l = false) := ⟨by simp [sentR, hr]⟩
    clear h1 h2 hA hS
    have HR := hide hr
    clear hr
    go_enter Try.func39, Try.ntmps39
    go_wp2_with (first | (go_at_call 59; refine (repl_any _ _).mono ?_; rintro e w1 ⟨rfl, rfl⟩; rw [HR.out]) | fail)
    go_ret
    exact ⟨bool_ret HF.out.symm, Below.refl _ _⟩
  have HR := hide hr
  clear hr
  cases d1 : decide (0 ≤ fr)
  · have HF : Hid (sentR r fr l = false) := ⟨by simp [sentR, d1]⟩
    clear h1 h2 hA hS
    go_enter Try.func39, Try.ntmps39
    go_wp2_with (first | (go_at_call 59; refine (repl_any _ _).mono ?_; rintro e w1 ⟨rfl, rfl⟩; rw [HR.out]) | fail)
    go_ret
    exact ⟨bool_ret HF.out.symm, Below.refl _ _⟩
  cases hg : logRight l
  · have HF : Hid (sentR r fr l = false) := ⟨by simp [sentR, hg]⟩
    rw [hg] at h1
    have H1 := hide h1
    clear h1 h2 hA hS hg
    go_enter Try.func39, Try.ntmps39
    go_wp2_with (first | (go_at_call 59; refine (repl_any _ _).mono ?_; rintro e w1 ⟨rfl, rfl⟩; rw [HR.out]) | (go_at_call 60; refine H1.out.mono ?_; rintro e w2 ⟨rfl, hb2⟩) | fail)
    go_ret
    exact ⟨bool_ret HF.out.symm, hb2⟩
  have HF : Hid (sentR r fr l = decide ((ownB l r).length = l.length)) := ⟨by
    have := HR.out
    simp only [sentR, hg, this, d1, Bool.true_and]⟩
  have H150 : Hid (l.length ≤ 150) := ⟨by simp [logRight] at hg; omega⟩
  rw [hg] at h1
  have H1 := hide h1
  have hol := own_len l r
  clear h1 h2 hA hS hg
  obtain ⟨n, hn⟩ : ∃ n, n = (ownB l r).length := ⟨_, rfl⟩
  rw [← hn] at HF hol
  have HN := hide hn
  have he : ((n : Int) == (l.length : Int)) = decide (n = l.length) := by
    by_cases h : n = l.length
    · simp [h]
    · have h2 : ¬ (n : Int) = (l.length : Int) := by omega
      rw [decide_eq_false h]
      exact beq_eq_false_iff_ne.2 h2
  have he2 : (n == l.length) = decide (n = l.length) := by by_cases h : n = l.length <;> simp [h]
  have HE := hide (And.intro he he2)
  clear hn he he2
  go_enter Try.func39, Try.ntmps39
  go_wp2_with (first | (go_at_call 59; refine (repl_any _ _).mono ?_; rintro e w1 ⟨rfl, rfl⟩; rw [HR.out]) | (go_at_call 60; refine H1.out.mono ?_; rintro e w2 ⟨rfl, hb2⟩; have HB2 := hide hb2; clear hb2) | (go_at_call 61; refine (HBy.out _ HB2.out H150.out).mono ?_; rintro e w3 ⟨v3, rfl, ho3, hb3⟩; obtain ⟨ao3, c3, he3, _, _⟩ := owns_at ho3; rw [← HN.out] at he3; subst he3; have HB3 := hide (HB2.out.trans (hb3.mono HB2.out.size)); clear ho3 hb3) | fail)
  go_ret
  exact ⟨bool_ret (by rw [HF.out]; first | exact HE.out.1 | exact HE.out.2), HB3.out⟩
end Go.Proofs.Ytdjjpaleemnikaa.OpR
namespace Go.Proofs.Ytdjjpaleemnikaa.OpR
open Go.ChangeShapes Go.WideShapes Go.ChangeAt Go.RowKit
set_option linter.unusedVariables false

/-- What is fresh, and what is told: 3 (no place), 4 (late), 0. -/
def freshOps (many fr : Int) (l : List OpV) : List OpV := l.drop (min (many - fr) (l.length : Int)).toNat
def lateB (s : SgtV) : List OpV → Bool
  | [] => false
  | o :: _ => !ahead s.last o
def FreshT (w w' : World) (e : Ending) (b : Nat) (more : List OpV) (told : Int) : Prop :=
  Below w.heap.size w w' ∧ if told = 0 then ∃ o c, e = .returned (.tuple #[.slice (some ⟨b, o, none⟩) more.length c, .int .i64 0]) ∧ more.length ≤ c ∧ ∀ W, Below w.heap.size w W → OpsAt W (some ⟨b, o, none⟩) more else e = .returned (.tuple #[.slice none 0 0, .int .i64 told])
/-- A sight in a variable, and ops that came. -/
structure SFr (w W : World) (F : Nat) (s : SgtV) (b o2 : Nat) (more : List OpV) : Prop where
  below : Below w.heap.size w W
  sg : W.heap[F]? = some (.cells #[.int .i64 s.many, .int .i64 s.last.time, .int .i64 s.last.repl, .int .i64 s.last.kind, .int .i64 s.last.node, .int .i64 s.last.parent, .string s.last.name, .string s.last.value] 81 (0, 0))
  ops : OpsAt W (some ⟨b, o2, none⟩) more
theorem SFr.step {w W W' : World} {F : Nat} {s : SgtV} {b o2 : Nat} {more : List OpV} (h : SFr w W F s b o2 more) (hb : Below W.heap.size W W') : SFr w W' F s b o2 more := ⟨h.below.trans (hb.mono h.below.size), (hb.block _ (Array.getElem?_eq_some_iff.1 h.sg).1).trans h.sg, h.ops.stays hb⟩
theorem SFr.cells {w W : World} {F : Nat} {s : SgtV} {b o2 : Nat} {more : List OpV} (h : SFr w W F s b o2 more) : W.cell? ⟨F, 1, none⟩ = some (.int .i64 s.last.time) ∧ W.cell? ⟨F, 2, none⟩ = some (.int .i64 s.last.repl) ∧ W.cell? ⟨F, 3, none⟩ = some (.int .i64 s.last.kind) ∧ W.cell? ⟨F, 4, none⟩ = some (.int .i64 s.last.node) ∧ W.cell? ⟨F, 5, none⟩ = some (.int .i64 s.last.parent) ∧ W.cell? ⟨F, 6, none⟩ = some (.string s.last.name) ∧ W.cell? ⟨F, 7, none⟩ = some (.string s.last.value) := by
  have e := h.sg
  refine ⟨?_, ?_, ?_, ?_, ?_, ?_, ?_⟩ <;> simp [World.cell?, e]
theorem SFr.op {w W : World} {F : Nat} {s : SgtV} {b o2 : Nat} {o : OpV} {r : List OpV} (h : SFr w W F s b o2 (o :: r)) : W.cell? ⟨b, o2, none⟩ = some (.int .i64 o.time) ∧ W.cell? ⟨b, o2 + 1, none⟩ = some (.int .i64 o.repl) ∧ W.cell? ⟨b, o2 + 2, none⟩ = some (.int .i64 o.kind) ∧ W.cell? ⟨b, o2 + 3, none⟩ = some (.int .i64 o.node) ∧ W.cell? ⟨b, o2 + 4, none⟩ = some (.int .i64 o.parent) ∧ W.cell? ⟨b, o2 + 5, none⟩ = some (.string o.name) ∧ W.cell? ⟨b, o2 + 6, none⟩ = some (.string o.value) := by
  obtain ⟨b', off', e, _, h0⟩ := h.ops 0 (by simp)
  cases e
  simpa [OpAt] using h0
set_option maxRecDepth 100000 in
set_option maxHeartbeats 1000000 in
theorem fresh_3 (m : List (Int × SgtV)) (B : Nat) (r fr : Int) (l : List OpV) (b off cap : Nat) (w : World) (hr : -9223372036854775808 ≤ r ∧ r ≤ 9223372036854775807) (hM : SgAt w B m) (hq : 0 ≤ (sgOf m r).many ∧ (sgOf m r).many ≤ 150) (hf : 0 ≤ fr) (hl : l.length ≤ 400) (hcap : l.length ≤ cap) (hA : OpsAt w (some ⟨b, off, none⟩) l) (h3 : (sgOf m r).many < fr) : Calls Try.prog 62 #[.func (.func 41) #[.map (some B)] #[], .int .i64 r, .int .i64 fr, .slice (some ⟨b, off, none⟩) l.length cap] w fun e w' => FreshT w w' e b [] 3 := by
  obtain ⟨s, hs⟩ : ∃ s, s = sgOf m r := ⟨_, rfl⟩
  have hof := fun W (h : SgAt W B m) => of_any m B r W hr h
  rw [← hs] at hof hq
  have HOF := hide hof
  have HM := hide hM
  unfold SgtV.agg at *
  have d3 : decide (s.many < fr) = true := by rw [hs]; simpa using h3
  clear hof hM hs h3 hA hr
  go_enter Try.func62, Try.ntmps62
  go_wp2_with (first | (go_at_call 41; (refine (HOF.out _ HM.out).mono ?_); rintro e w1 ⟨rfl, hb1⟩; have HB1 := hide hb1; clear hb1) | fail)
  refine bodyPost_ret (v := .tuple #[.slice none 0 0, .int .i64 3]) (by simp [results, Try.results62, go_sem]) rfl ?_
  exact ⟨HB1.out.alloc HB1.out.size _, rfl⟩
set_option maxRecDepth 100000 in
set_option maxHeartbeats 1000000 in
theorem fresh_0 (m : List (Int × SgtV)) (B : Nat) (r fr : Int) (l : List OpV) (b off cap : Nat) (w : World) (hr : -9223372036854775808 ≤ r ∧ r ≤ 9223372036854775807) (hM : SgAt w B m) (hq : 0 ≤ (sgOf m r).many ∧ (sgOf m r).many ≤ 150) (hf : 0 ≤ fr) (hl : l.length ≤ 400) (hcap : l.length ≤ cap) (hA : OpsAt w (some ⟨b, off, none⟩) l) (h3 : ¬ (sgOf m r).many < fr) (more : List OpV) (hmo : more = freshOps (sgOf m r).many fr l) : Calls Try.prog 62 #[.func (.func 41) #[.map (some B)] #[], .int .i64 r, .int .i64 fr, .slice (some ⟨b, off, none⟩) l.length cap] w fun e w' => FreshT w w' e b more (if lateB (sgOf m r) more = true then 4 else 0) := by
  obtain ⟨k, hk⟩ : ∃ k : Nat, min ((sgOf m r).many - fr) (l.length : Int) = (k : Int) := ⟨(min ((sgOf m r).many - fr) (l.length : Int)).toNat, by omega⟩
  have hkl : k ≤ l.length := by omega
  have hfo : freshOps (sgOf m r).many fr l = l.drop k := by unfold freshOps; rw [hk]; rfl
  rw [hfo] at hmo
  obtain ⟨s, hs⟩ : ∃ s, s = sgOf m r := ⟨_, rfl⟩
  have hof := fun W (h : SgAt W B m) => of_any m B r W hr h
  rw [← hs] at hof hq
  have HOF := hide hof
  have HM := hide hM
  unfold SgtV.agg at *
  rw [← hs] at hk
  have d3 : decide (s.many < fr) = false := by rw [hs]; simpa using h3
  have hsl := fun W => slice_from W b off l.length cap k (k : Int) rfl hkl
  obtain ⟨o2, ho2⟩ : ∃ o2, o2 = fromOff off cap k := ⟨_, rfl⟩
  rw [← ho2] at hsl
  have hat : ∀ W, Below w.heap.size w W → OpsAt W (some ⟨b, o2, none⟩) more := fun W hW => by rw [ho2, hmo]; exact (hA.stays hW).from k hcap
  have hml : l.length - k = more.length := by rw [hmo, List.length_drop]
  have hmc : more.length ≤ cap - k := by rw [← hml]; omega
  have hwr : wrap64 (s.many - fr) = s.many - fr := by unfold wrap64; omega
  have HAt := hide hat
  rw [hml] at hsl
  have HMC := hide hmc
  have hrs : (sgOf m r) = s := hs.symm
  rw [hrs]
  obtain ⟨T, hT⟩ : ∃ T : Int, T = if lateB s more = true then 4 else 0 := ⟨_, rfl⟩
  rw [← hT]
  have HT := hide hT
  clear hT hof hM hs h3 hA hr hat hmo hfo hml hmc ho2 hrs
  cases more with
  | nil =>
    go_enter Try.func62, Try.ntmps62
    go_wp2_with (first | (go_at_call 41; (refine (HOF.out _ HM.out).mono ?_); rintro e w1 ⟨rfl, hb1⟩; have HB1 := hide hb1; clear hb1) | fail)
    go_quiet (fail)
    go_wp2
    refine bodyPost_ret (v := .tuple #[.slice (some ⟨b, o2, none⟩) ([] : List OpV).length (cap - k), .int .i64 0]) (by simp [results, Try.results62, go_sem]) rfl ?_
    refine ⟨(HB1.out.alloc HB1.out.size _).trans ((drewN_below _ _).mono (Nat.le_trans HB1.out.size (base_alloc _ _))), ?_⟩
    rw [show T = 0 by rw [HT.out]; simp [lateB]]
    exact ⟨_, _, rfl, HMC.out, HAt.out⟩
  | cons o r' =>
  have d4 : decide (0 < (o :: r').length) = true := by simp
  have d5 : (0 : Int) < ((o :: r').length : Int) := by rw [List.length_cons]; omega
  go_enter Try.func62, Try.ntmps62
  go_wp2_with (first | (go_at_call 41; (refine (HOF.out _ HM.out).mono ?_); rintro e w1 ⟨rfl, hb1⟩; have HB1 := hide hb1; clear hb1) | fail)
  have hah := fun W => iAhead_any s.last o W
  unfold OpV.agg at hah
  have HAh := hide hah
  have hS1 : SFr w (w1.alloc (.cells #[.int .i64 s.many, .int .i64 s.last.time, .int .i64 s.last.repl, .int .i64 s.last.kind, .int .i64 s.last.node, .int .i64 s.last.parent, .string s.last.name, .string s.last.value] 81)) w1.heap.size s b o2 (o :: r') := ⟨HB1.out.alloc HB1.out.size _, heap_alloc_new w1 _, HAt.out _ (HB1.out.alloc HB1.out.size _)⟩
  have HSd := hide (hS1.step (Below.refl _ _).drew)
  haveI : Nonempty (ClsW fun W => SFr w W w1.heap.size s b o2 (o :: r')) := ⟨⟨_, hS1⟩⟩
  have X1 : ∀ q : (ClsW fun W => SFr w W w1.heap.size s b o2 (o :: r')), q.wd.cell? ⟨w1.heap.size, 1, none⟩ = some (.int .i64 s.last.time) := fun q => q.ok.cells.1
  have X2 : ∀ q : (ClsW fun W => SFr w W w1.heap.size s b o2 (o :: r')), q.wd.cell? ⟨w1.heap.size, 2, none⟩ = some (.int .i64 s.last.repl) := fun q => q.ok.cells.2.1
  have X3 : ∀ q : (ClsW fun W => SFr w W w1.heap.size s b o2 (o :: r')), q.wd.cell? ⟨w1.heap.size, 3, none⟩ = some (.int .i64 s.last.kind) := fun q => q.ok.cells.2.2.1
  have X4 : ∀ q : (ClsW fun W => SFr w W w1.heap.size s b o2 (o :: r')), q.wd.cell? ⟨w1.heap.size, 4, none⟩ = some (.int .i64 s.last.node) := fun q => q.ok.cells.2.2.2.1
  have X5 : ∀ q : (ClsW fun W => SFr w W w1.heap.size s b o2 (o :: r')), q.wd.cell? ⟨w1.heap.size, 5, none⟩ = some (.int .i64 s.last.parent) := fun q => q.ok.cells.2.2.2.2.1
  have X6 : ∀ q : (ClsW fun W => SFr w W w1.heap.size s b o2 (o :: r')), q.wd.cell? ⟨w1.heap.size, 6, none⟩ = some (.string s.last.name) := fun q => q.ok.cells.2.2.2.2.2.1
  have X7 : ∀ q : (ClsW fun W => SFr w W w1.heap.size s b o2 (o :: r')), q.wd.cell? ⟨w1.heap.size, 7, none⟩ = some (.string s.last.value) := fun q => q.ok.cells.2.2.2.2.2.2
  have Y0 : ∀ q : (ClsW fun W => SFr w W w1.heap.size s b o2 (o :: r')), q.wd.cell? ⟨b, o2, none⟩ = some (.int .i64 o.time) := fun q => q.ok.op.1
  have Y1 : ∀ q : (ClsW fun W => SFr w W w1.heap.size s b o2 (o :: r')), q.wd.cell? ⟨b, o2 + 1, none⟩ = some (.int .i64 o.repl) := fun q => q.ok.op.2.1
  have Y2 : ∀ q : (ClsW fun W => SFr w W w1.heap.size s b o2 (o :: r')), q.wd.cell? ⟨b, o2 + 2, none⟩ = some (.int .i64 o.kind) := fun q => q.ok.op.2.2.1
  have Y3 : ∀ q : (ClsW fun W => SFr w W w1.heap.size s b o2 (o :: r')), q.wd.cell? ⟨b, o2 + 3, none⟩ = some (.int .i64 o.node) := fun q => q.ok.op.2.2.2.1
  have Y4 : ∀ q : (ClsW fun W => SFr w W w1.heap.size s b o2 (o :: r')), q.wd.cell? ⟨b, o2 + 4, none⟩ = some (.int .i64 o.parent) := fun q => q.ok.op.2.2.2.2.1
  have Y5 : ∀ q : (ClsW fun W => SFr w W w1.heap.size s b o2 (o :: r')), q.wd.cell? ⟨b, o2 + 5, none⟩ = some (.string o.name) := fun q => q.ok.op.2.2.2.2.2.1
  have Y6 : ∀ q : (ClsW fun W => SFr w W w1.heap.size s b o2 (o :: r')), q.wd.cell? ⟨b, o2 + 6, none⟩ = some (.string o.value) := fun q => q.ok.op.2.2.2.2.2.2
  cases hav : ahead s.last o
  · rw [hav] at HAh
    have HV := hide hav
    clear hah hav hS1
    refine region_class (ι := (ClsW fun W => SFr w W w1.heap.size s b o2 (o :: r'))) ClsW.wd (by kernel_rfl) (by kernel_rfl) ⟨_, HSd.out⟩ rfl ?_
    repeat (go_big_quiet_step (first | (go_at_call 74; rename_i q; refine (HAh.out _).mono ?_; rintro e w4 ⟨rfl, hw4⟩; exact ⟨rfl, ⟨w4, q.ok.step hw4⟩, rfl⟩)))
    refine wpQuiet_nil ?_
    rintro _ ⟨⟨w5, hV5⟩, rfl⟩
    clear X1 X2 X3 X4 X5 X6 X7 Y0 Y1 Y2 Y3 Y4 Y5 Y6
    go_wp2
    refine bodyPost_ret (v := .tuple #[.slice none 0 0, .int .i64 4]) (by simp [results, Try.results62, go_sem]) rfl ?_
    exact ⟨hV5.below, by rw [show T = 4 by rw [HT.out]; simp [lateB, HV.out]]; rfl⟩
  · rw [hav] at HAh
    have HV := hide hav
    clear hah hav hS1
    refine region_class (ι := (ClsW fun W => SFr w W w1.heap.size s b o2 (o :: r'))) ClsW.wd (by kernel_rfl) (by kernel_rfl) ⟨_, HSd.out⟩ rfl ?_
    repeat (go_big_quiet_step (first | (go_at_call 74; rename_i q; refine (HAh.out _).mono ?_; rintro e w4 ⟨rfl, hw4⟩; exact ⟨rfl, ⟨w4, q.ok.step hw4⟩, rfl⟩)))
    refine wpQuiet_nil ?_
    rintro _ ⟨⟨w5, hV5⟩, rfl⟩
    clear X1 X2 X3 X4 X5 X6 X7 Y0 Y1 Y2 Y3 Y4 Y5 Y6
    go_wp2
    refine bodyPost_ret (v := .tuple #[.slice (some ⟨b, o2, none⟩) (o :: r').length (cap - k), .int .i64 0]) (by simp [results, Try.results62, go_sem]) rfl ?_
    refine ⟨hV5.below, ?_⟩
    rw [show T = 0 by rw [HT.out]; simp [lateB, HV.out]]
    exact ⟨_, _, rfl, HMC.out, HAt.out⟩
end Go.Proofs.Ytdjjpaleemnikaa.OpR
namespace Go.Proofs.Ytdjjpaleemnikaa.OpR
open Go.ChangeShapes Go.WideShapes Go.ChangeAt Go.RowKit
set_option linter.unusedVariables false

/-- An append whose run is known. -/
theorem wpList_append_run {ops : Array Oper} {rest : List Oper} {o : Oper} {a : Act} {w : World} {Q : Exit → Act → World → Prop} (hgd : o.guard = none) (s x : Operand) (t1 t2 : TypeId)
    (ho : o.op = .call { callee := .builtin .append, args := #[s, x], argTypes := #[t1, t2] }) (v1 v2 : Value) (hs : a.eval s = v1) (hx : a.eval x = v2) (v : Value) (w' : World)
    (hrun : (Builtin.append_ #[t1, t2] o.type #[v1, v2]).run Try.prog w = .ok v w') (h : wpList Try.prog ops Q rest (a.put o.dst v) w') : wpList Try.prog ops Q (o :: rest) a w := by
  refine wpList_plain hgd fun K hK => ?_
  unfold Oper.wp execOp
  simp only [ho, resolve, invoke, builtin, Sem.run_bind, Sem.run_pure, Result.andThen_ok, List.map_toArray, List.map_cons, List.map_nil, hs, hx, hrun]
  exact hK _ _ h
set_option maxRecDepth 100000 in
set_option maxHeartbeats 1000000 in
theorem grow_any (n : Nat) (hn : n ≤ 4000) (w : World) :
    Calls Try.prog 77 #[.slice none 0 0, .int .i64 (n : Int)] w fun e w' => ∃ v, e = .returned v ∧ w'.ownsRow w.heap.size 59 7 v 0 [] ∧ Below w.heap.size w w' := by
  have hneg : ¬ ((n : Int) < 0) := by omega
  have hwr : wrap64 (n : Int) = (n : Int) := by unfold wrap64; omega
  by_cases h0 : n = 0
  · subst h0
    go_enter Try.func77, Try.ntmps77
    go_wp2
    go_ret
    exact ⟨_, rfl, ⟨rfl, .inl ⟨rfl, rfl⟩⟩, Below.refl _ _⟩
  · obtain ⟨i0, hi, hzz⟩ := Option.map_eq_some_iff.1 infoOp
    simp only [Prod.mk.injEq] at hzz
    obtain ⟨hz0, hz1, hz2⟩ := hzz
    have hcapn : Builtin.nextslicecap n 0 = n := by unfold Builtin.nextslicecap; simp; omega
    have happ : ∀ ty, (Builtin.append_ #[28, 3] ty #[.slice none 0 0, .int .i64 (n : Int)]).run Try.prog w = .ok (.slice (some ⟨w.heap.size, 0, none⟩) n (grownCap w n 0 59))
        (w.drew.alloc (.cells (Builtin.zeroCells #[.int .i64 0, .int .i64 0, .int .i64 0, .int .i64 0, .int .i64 0, .string ⟨#[]⟩, .string ⟨#[]⟩] n ++ Builtin.zeroCells #[.int .i64 0, .int .i64 0, .int .i64 0, .int .i64 0, .int .i64 0, .string ⟨#[]⟩, .string ⟨#[]⟩] (grownCap w n 0 59 - n)) 59)) := fun ty => by
      have h := Lib.run_append_grow_zeros w 28 3 ty 59 i0 _ .i64 .i64 Try.underlying28 Try.underlying3 hi hz0 none 0 0 [] (by simp [Builtin.firstCells]) n (by omega) (by rw [hz1]; omega) (by omega) (by omega) (by rw [hz2]; omega) (by rw [Nat.zero_add, hcapn, hz2]; omega)
      simpa [Value.cells] using h
    obtain ⟨G, hG⟩ : ∃ G, G = grownCap w n 0 59 := ⟨_, rfl⟩
    have hG1 : n ≤ G := by rw [hG]; exact grownCap_ge w n 0 _
    have hG2 : G ≤ maxLen := by rw [hG]; exact grownCap_le_maxLen w n 0 _ (by unfold maxLen; omega)
    rw [← hG] at happ
    obtain ⟨ROW, hROW⟩ : ∃ ROW, ROW = Builtin.zeroCells #[.int .i64 0, .int .i64 0, .int .i64 0, .int .i64 0, .int .i64 0, .string ⟨#[]⟩, .string ⟨#[]⟩] n ++ Builtin.zeroCells #[.int .i64 0, .int .i64 0, .int .i64 0, .int .i64 0, .int .i64 0, .string ⟨#[]⟩, .string ⟨#[]⟩] (G - n) := ⟨_, rfl⟩
    have hRs : ROW.size = G * 7 := by
      rw [hROW]
      simp [Builtin.zeroCells]
      omega
    rw [← hROW] at happ
    have hown : (w.drew.alloc (.cells ROW 59)).ownsRow w.heap.size 59 7 (.slice (some ⟨w.heap.size, 0, none⟩) 0 G) 0 [] := World.ownsRow_made w.drew ROW G (Nat.le_refl _) hG2 hRs
    have hbw : Below w.heap.size w (w.drew.alloc (.cells ROW 59)) := ((Below.refl _ _).drew).alloc (Nat.le_refl _) _
    obtain ⟨W1, hW1⟩ : ∃ W1, W1 = w.drew.alloc (.cells ROW 59) := ⟨_, rfl⟩
    rw [← hW1] at happ hown hbw
    have HOwn := hide hown
    have HBw := hide hbw
    have hs1 : ∀ W, (Instr.slice 28 (.slice none 0 0) none (some (.int .i64 0)) none).run Try.prog W = .ok (.slice none 0 0) W := fun W => by kernel_rfl
    have hs2 : ∀ W, (Instr.slice 28 (.slice (some ⟨w.heap.size, 0, none⟩) n G) none (some (.int .i64 0)) none).run Try.prog W = .ok (.slice (some ⟨w.heap.size, 0, none⟩) 0 G) W := fun W => by
      have ht : Try.prog.underlying 28 = some (.slice (Try.prog.elem 28)) := by kernel_rfl
      have hs : ∀ w, (sizeOf (Try.prog.elem 28)).run Try.prog w = .ok 7 w := fun _ => by kernel_rfl
      rw [run_slice_h W 28 (some ⟨w.heap.size, 0, none⟩) n G ht .i64 (0 : Int) (by omega) (by omega), hs]
      simp only [Result.andThen, sliced, Option.map_some, add_plain]
      have hG0 : ¬ G = 0 := by omega
      simp [hG0]
    have hpos : (0 : Int) < (n : Int) := by omega
    have hpos2 : decide (0 < n) = true := by simp; omega
    have HApp := hide happ
    clear happ hown hbw hW1 hROW hRs hG hi hz0 hz1 hz2 hcapn
    go_enter Try.func77, Try.ntmps77
    go_wp2_with (first | (at_builtin; refine wpList_append_run rfl _ _ _ _ rfl _ _ rfl rfl _ _ (HApp.out _) ?_) | fail)
    go_ret
    exact ⟨_, rfl, HOwn.out, HBw.out⟩
end Go.Proofs.Ytdjjpaleemnikaa.OpR
namespace Go.Proofs.Ytdjjpaleemnikaa.OpR
open Go.ChangeShapes Go.WideShapes Go.ChangeAt Go.RowKit
set_option linter.unusedVariables false

theorem own_base {w : World} {base n : Nat} {T : TypeId} {v : Value} {xs : List Value} (h : w.ownsRow base T 7 v n xs) : ∀ k, v.ownBlock = some k → base ≤ k := fun k hk => (h.lt k hk).1
set_option maxRecDepth 100000 in
set_option maxHeartbeats 1000000 in
theorem concat_any (x y : List OpV) (xa ya : Option Addr) (xc yc ga : Nat) (w : World) (hx : x.length ≤ 150) (hy : y.length ≤ 400) (hg : ga < w.heap.size)
    (h0 : w.cell? ⟨ga, 0, none⟩ = some (.slice xa x.length xc)) (h1 : w.cell? ⟨ga, 1, none⟩ = some (.slice ya y.length yc)) (hA : OpsAt w xa x) (hB : OpsAt w ya y) :
    Calls Try.prog 63 #[.slice (some ⟨ga, 0, none⟩) 2 2] w fun e w' => ∃ v, e = .returned v ∧ w'.ownsRow w.heap.size 59 7 v (x ++ y).length (flat (x ++ y)) ∧ Below w.heap.size w w' := by
  have hc0 : ∀ W, Below w.heap.size w W → W.cell? ⟨ga, 0, none⟩ = some (.slice xa x.length xc) := fun W hW => (hW.cell hg).trans h0
  have hc1 : ∀ W, Below w.heap.size w W → W.cell? ⟨ga, 1, none⟩ = some (.slice ya y.length yc) := fun W hW => (hW.cell hg).trans h1
  have HC := hide (And.intro hc0 hc1)
  have HA := hide hA
  have HB := hide hB
  have hgr := fun (n : Nat) (hn : n ≤ 4000) W => grow_any n hn W
  have HG := hide hgr
  have hw1 : wrap64 (x.length : Int) = (x.length : Int) := by unfold wrap64; omega
  have hw2 : wrap64 ((x.length : Int) + (y.length : Int)) = (x.length : Int) + (y.length : Int) := by unfold wrap64; omega
  have hn1 : ¬ ((x.length : Int) < 0) := by omega
  have hn2 : ¬ ((x.length : Int) + (y.length : Int) < 0) := by omega
  clear hc0 hc1 hA hB hgr
  go_enter Try.func63, Try.ntmps63
  go_wp2
  go_loopw [3, 11] (fun z i wr => w = wr ∧ ((i = .int .i64 0 ∧ z = .int .i64 0) ∨ (i = .int .i64 1 ∧ z = .int .i64 x.length) ∨ (i = .int .i64 2 ∧ z = .int .i64 ((x.length : Int) + (y.length : Int))))) (fun _ i _ => 2 - (intOf i).toNat)
  case atStart => exact ⟨rfl, .inl ⟨rfl, rfl⟩⟩
  case round =>
    obtain ⟨rfl, ⟨rfl, rfl⟩ | ⟨rfl, rfl⟩ | ⟨rfl, rfl⟩⟩ := hrel
    · go_wp2
      go_roundw
      case rel => exact ⟨by simp, .inr (.inl ⟨by simp, by simp⟩)⟩
      case measure => simp [intOf]
    · go_wp2
      go_roundw
      case rel => exact ⟨by simp, .inr (.inr ⟨by simp, by simp⟩)⟩
      case measure => simp [intOf]
    · clear h0 h1
      go_wp2_with (first | (go_at_call 77; (refine (HG.out (x.length + y.length) (by omega) _).mono ?_); rintro e w1 ⟨v1, rfl, ho1, hb1⟩; have HO1 := hide ho1; have HB1 := hide hb1; clear ho1 hb1) | fail)
      go_loopw [6, 27] (fun v i w2 => Below w.heap.size w w2 ∧ ((i = .int .i64 0 ∧ w2.ownsRow w.heap.size 59 7 v ([] : List OpV).length (flat [])) ∨ (i = .int .i64 1 ∧ w2.ownsRow w.heap.size 59 7 v x.length (flat x)) ∨ (i = .int .i64 2 ∧ w2.ownsRow w.heap.size 59 7 v (x ++ y).length (flat (x ++ y))))) (fun _ i _ => 2 - (intOf i).toNat)
      case atStart => exact ⟨HB1.out, .inl ⟨rfl, HO1.out⟩⟩
      case round =>
        obtain ⟨hb, ⟨rfl, ho⟩ | ⟨rfl, ho⟩ | ⟨rfl, ho⟩⟩ := hrel
        · have c0 := HC.out.1 wr hb
          have HO := hide ho
          have HBw := hide hb
          clear ho hb
          go_wp2_with (first | (at_builtin; refine wpList_append_ops rfl _ _ rfl w.heap.size _ [] rfl HO.out xa x xc rfl (HA.out.stays HBw.out) (len_150 hx) HBw.out.size ?_; intro v3 w3 ho3 hg3 _; have HO3 := hide ho3; have HG3 := hide hg3; clear ho3 hg3) | fail)
          go_roundw
          case rel => exact ⟨HBw.out.grown HG3.out HBw.out.size (own_base HO.out), .inr (.inl ⟨by simp, HO3.out⟩)⟩
          case measure => simp [intOf]
        · have c1 := HC.out.2 wr hb
          have HO := hide ho
          have HBw := hide hb
          clear ho hb
          go_wp2_with (first | (at_builtin; refine wpList_append_ops rfl _ _ rfl w.heap.size _ x rfl HO.out ya y yc rfl (HB.out.stays HBw.out) (by omega) HBw.out.size ?_; intro v3 w3 ho3 hg3 _; have HO3 := hide ho3; have HG3 := hide hg3; clear ho3 hg3) | fail)
          go_roundw
          case rel => exact ⟨HBw.out.grown HG3.out HBw.out.size (own_base HO.out), .inr (.inr ⟨by simp, HO3.out⟩)⟩
          case measure => simp [intOf]
        · have HO := hide ho
          have HBw := hide hb
          clear ho hb
          go_wp2
          go_ret
          exact ⟨_, rfl, HO.out, HBw.out⟩
end Go.Proofs.Ytdjjpaleemnikaa.OpR
namespace Go.Proofs.Ytdjjpaleemnikaa.OpR
open Go.ChangeShapes Go.WideShapes Go.ChangeAt Go.RowKit
set_option linter.unusedVariables false

theorem six_new (w : World) (T : TypeId) (v0 v1 v2 v3 v4 v5 : Value) : Six (w.alloc (.cells #[v0, v1, v2, v3, v4, v5] T)) w.heap.size T v0 v1 v2 v3 v4 v5 := heap_alloc_new w _
/-- What leaves all blocks but those of two rows. -/
structure Marked (la oa : Option Addr) (w w' : World) : Prop where
  os : w'.os = w.os
  tape : w'.tape = w.tape
  output : w'.output = w.output
  size : w.heap.size ≤ w'.heap.size
  block : ∀ k, k < w.heap.size → (∀ a, la = some a → k ≠ a.block) → (∀ a, oa = some a → k ≠ a.block) → w'.heap[k]? = w.heap[k]?
theorem Marked.below {la oa : Option Addr} {w w' : World} {B : Nat} {a : World} (h : Marked la oa w w') (hb : Below B a w) (hB : B ≤ w.heap.size) (hl : ∀ x, la = some x → B ≤ x.block) (ho : ∀ x, oa = some x → B ≤ x.block) : Below B a w' :=
  ⟨h.os.trans hb.os, h.tape.trans hb.tape, h.output.trans hb.output, Nat.le_trans hb.size h.size, fun k hk => (h.block k (by omega) (fun x e => by have := hl x e; omega) (fun x e => by have := ho x e; omega)).trans (hb.block k hk)⟩
/-- Both rows of a client may be marked. -/
structure MarkC (w : World) (c : CliV) (la oa : Option Addr) : Prop where
  log : MarkOk w la c.log.length
  out : MarkOk w oa c.out.length
  apart : ∀ x y, la = some x → oa = some y → x.block ≠ y.block
theorem MarkC.below {w w' : World} {c : CliV} {la oa : Option Addr} (h : MarkC w c la oa) (hb : Below w.heap.size w w') : MarkC w' c la oa := ⟨h.log.below hb, h.out.below hb, h.apart⟩
theorem OpsAt.block_ {w w' : World} {ao : Option Addr} {l : List OpV} (h : OpsAt w ao l) (hs : w.heap.size ≤ w'.heap.size) (hb : ∀ a, ao = some a → w'.heap[a.block]? = w.heap[a.block]?) : OpsAt w' ao l := fun j hj => by
  obtain ⟨b, off, e, hlt, ho⟩ := h j hj
  exact ⟨b, off, e, Nat.lt_of_lt_of_le hlt hs, ho.block (hb _ e)⟩
theorem okM_grown {w w' : World} {ag : Option Addr} {n : Nat} (h : MarkOk w ag n) {row : Option Nat} (hg : w.grownBy w' row) (hr : ∀ x, ag = some x → row ≠ some x.block) : MarkOk w' ag n := by
  rcases h with ⟨g, N, rfl, hN, cs, e, hn⟩ | h
  · refine .inl ⟨g, N, rfl, hN, cs, ?_, hn⟩
    have hlt : g < w.heap.size := (Array.getElem?_eq_some_iff.1 e).1
    exact (hg.block g hlt (fun e2 => hr _ rfl e2.symm)).trans e
  · exact .inr h
theorem ne_map {a : Option Addr} {V : Nat} (h : ∀ x, a = some x → x.block ≠ V) : a.map (·.block) ≠ some V := by
  cases a with
  | none => simp
  | some x => simpa using h x rfl
theorem MarkOk.lt {w : World} {ao : Option Addr} {n : Nat} (h : MarkOk w ao n) : ∀ a, ao = some a → a.block < w.heap.size := by
  rintro a rfl
  rcases h with ⟨g, N, e, _, hr⟩ | ⟨e, _⟩
  · cases e; exact hr.lt
  · cases e
end Go.Proofs.Ytdjjpaleemnikaa.OpR
namespace Go.Proofs.Ytdjjpaleemnikaa.OpR
open Go.ChangeShapes Go.WideShapes Go.ChangeAt Go.RowKit
set_option linter.unusedVariables false

/-- A row of what was seen that the call owns may be marked. -/
theorem ownE_mark {w : World} {base : Nat} {l : List SeenV} {a : Option Addr} {n c : Nat} (h : w.ownsRow base 67 2 (.slice a n c) l.length (flatG SeenV.cells l)) (hn : n = l.length) : SeensAt w a l ∧ MarkE w a n ∧ ∀ x, a = some x → base ≤ x.block := by
  subst hn
  refine ⟨owns_cellsE h, ?_⟩
  rcases h.2 with ⟨e, hl⟩ | ⟨g, cap, cur, e, hb, hg, h1, h2, h3, h4⟩
  · simp only [Value.slice.injEq] at e
    obtain ⟨rfl, e2, _⟩ := e
    exact ⟨.inr ⟨rfl, e2⟩, fun x e => by cases e⟩
  · simp only [Value.slice.injEq] at e
    obtain ⟨rfl, _, rfl⟩ := e
    exact ⟨.inl ⟨g, c * 2, rfl, Nat.mul_le_mul_right _ h1, cur, hg, h3⟩, fun x e => by cases e; exact hb⟩
/-- A server that the call owns. -/
def SvIn (w w' : World) (e : Ending) (x : SrvV) : Prop := ∃ g a c, e = .returned (x.agg (some ⟨g, 0, none⟩) x.ops.length a c) ∧ OpsIn w' g 59 x.ops ∧ SeensAt w' a x.seen ∧ MarkSv w' x (some ⟨g, 0, none⟩) a ∧ w.heap.size ≤ g ∧ (∀ y, a = some y → w.heap.size ≤ y.block) ∧ Below w.heap.size w w'
theorem other2 {w : World} {g k : Nat} (hne : k ≠ g) (v0 v1 : Value) : ((w.setCell ⟨g, 0, none⟩ v0).setCell ⟨g, 1, none⟩ v1).heap[k]? = w.heap[k]? := (Below.heap_setCell _ _ _ _ hne).trans (Below.heap_setCell _ _ _ _ hne)
/-- The serving in a variable, and the answer. -/
structure SvB (w W : World) (la : Option Addr) (n lc B : Nat) : Prop where
  box : W.heap[w.heap.size]? = some (.cells #[.slice la n lc, .map (some B)] 75 (0, 0))
  res : W.heap[w.heap.size + 1]? = some (.cells #[.slice none 0 0, .slice none 0 0] 31 (0, 0))
  below : Below w.heap.size w W
theorem SvB.step {w W W' : World} {la : Option Addr} {n lc B : Nat} (h : SvB w W la n lc B) (hb : Below W.heap.size W W') : SvB w W' la n lc B := ⟨(hb.block _ (Array.getElem?_eq_some_iff.1 h.box).1).trans h.box, (hb.block _ (Array.getElem?_eq_some_iff.1 h.res).1).trans h.res, h.below.trans (hb.mono h.below.size)⟩
theorem SvB.lt {w W : World} {la : Option Addr} {n lc B : Nat} (h : SvB w W la n lc B) : w.heap.size + 1 < W.heap.size := (Array.getElem?_eq_some_iff.1 h.res).1
theorem SvB.start (w : World) (la : Option Addr) (n lc B : Nat) : SvB w ((w.alloc (.cells #[.slice la n lc, .map (some B)] 75)).alloc (.cells #[.slice none 0 0, .slice none 0 0] 31)) la n lc B := by
  refine ⟨(Below.heap_alloc _ _ w.heap.size (by simp)).trans (heap_alloc_new w _), ?_, ((Below.refl _ _).alloc (Nat.le_refl _) _).alloc (by simp) _⟩
  have h := heap_alloc_new (w.alloc (.cells #[.slice la n lc, .map (some B)] 75)) (.cells #[.slice none 0 0, .slice none 0 0] 31)
  rw [show (w.alloc (.cells #[.slice la n lc, .map (some B)] 75)).heap.size = w.heap.size + 1 by simp] at h
  exact h
theorem sv_end {w W1 W2 : World} {l : List OpV} {m : List (Int × SgtV)} {g1 : Nat} {a : Option Addr} {c : Nat} {la : Option Addr} {n lc B : Nat} (hB : SvB w W1 la n lc B) (hg : w.heap.size + 1 < g1) (hi : OpsIn W1 g1 59 l) (hb : Below W1.heap.size W1 W2)
    (h : W2.ownsRow W1.heap.size 67 2 (.slice a (seenL m).length c) (seenL m).length (flatG SeenV.cells (seenL m))) (v0 v1 : Value) :
    SvIn w ((W2.setCell ⟨w.heap.size + 1, 0, none⟩ v0).setCell ⟨w.heap.size + 1, 1, none⟩ v1) (.returned (.agg #[.slice (some ⟨g1, 0, none⟩) l.length l.length, .slice a (seenL m).length c])) ⟨l, seenL m⟩ := by
  obtain ⟨h1, h2, h3⟩ := ownE_mark h rfl
  have hlt := hB.lt
  have hgl := hi.lt
  have ha : ∀ x, a = some x → ((W2.setCell ⟨w.heap.size + 1, 0, none⟩ v0).setCell ⟨w.heap.size + 1, 1, none⟩ v1).heap[x.block]? = W2.heap[x.block]? := fun x e => other2 (by have := h3 x e; omega) _ _
  have hi2 : OpsIn ((W2.setCell ⟨w.heap.size + 1, 0, none⟩ v0).setCell ⟨w.heap.size + 1, 1, none⟩ v1) g1 59 l := (hi.stays hb).block (other2 (by omega) _ _)
  refine ⟨g1, a, c, rfl, hi2, h1.block_ (by simp [World.setCell]) ha, ⟨in_mark hi2, h2.block_ ha, fun x y ex ey => ?_⟩, by omega, fun x e => by have := h3 x e; omega, ?_⟩
  · cases ex
    have := h3 y ey
    show g1 ≠ y.block
    omega
  · exact (((hB.below.trans (hb.mono hB.below.size)).setCell (p := ⟨w.heap.size + 1, 0, none⟩) (by show w.heap.size ≤ w.heap.size + 1; omega) v0).setCell (p := ⟨w.heap.size + 1, 1, none⟩) (by show w.heap.size ≤ w.heap.size + 1; omega) v1)
set_option maxRecDepth 100000 in
set_option maxHeartbeats 1000000 in
theorem server_any (l : List OpV) (la : Option Addr) (lc B : Nat) (m : List (Int × SgtV)) (w : World) (hl : l.length ≤ 1048576) (hz : ∀ o ∈ l, o.name.size ≤ 1048576 ∧ o.value.size ≤ 1048576) (hr : RiseG m) (hm : m.length ≤ 150) (hA : OpsAt w la l) (hM : SgAt w B m) :
    Calls Try.prog 42 #[.agg #[.slice la l.length lc, .map (some B)]] w fun e w' => SvIn w w' e ⟨l, seenL m⟩ := by
  have how := fun W (hW : Below w.heap.size w W) => own_ex l la lc W hl (hA.stays hW) hz
  have hls := fun W (hW : Below w.heap.size w W) => seenList_any m B W hr hm (hM.stays hW)
  have HOw := hide how
  have HLs := hide hls
  have HB0 := hide (SvB.start w la l.length lc B)
  obtain ⟨p0, p1, _⟩ := two HB0.out.box
  clear how hls hz hr hA hM
  go_enter Try.func42, Try.ntmps42
  go_wp2
  go_region_with (first | (go_at_call 65; (refine (HOw.out _ HB0.out.below.drew).mono ?_); rintro e w1 ⟨g1, rfl, hg1, hi1, hb1⟩; have hB1 := HB0.out.step ((Below.refl _ _).drew.trans (hb1.mono (Nat.le_refl _))); have HB1 := hide hB1; have hgg := Nat.lt_of_lt_of_le HB0.out.lt hg1; have HG1 := hide (And.intro hgg hi1); clear p0 p1 hg1 hi1 hb1 hgg; obtain ⟨p0, p1, _⟩ := two hB1.box; clear hB1) | (go_at_call 58; (refine (HLs.out _ HB1.out.below).mono ?_); rintro e w2 ⟨v2, rfl, ho2, hb2⟩; obtain ⟨a2, c2, rfl, _, _⟩ := owns_atE ho2; have hB2 := HB1.out.step hb2; have HB2 := hide hB2; have HO2 := hide (And.intro hb2 ho2); clear p0 p1 hb2 ho2; obtain ⟨p0, p1, _⟩ := two hB2.box; obtain ⟨r0, r1, fr⟩ := two hB2.res; clear hB2) | fail)
  all_goals (
    go_wp2
    refine bodyPost_ret (v := .agg #[.slice (some ⟨g1, 0, none⟩) l.length l.length, .slice a2 (seenL m).length c2]) (by simp [results, Try.results42, go_sem, r0, r1]) rfl (sv_end HB1.out HG1.out.1 HG1.out.2 HO2.out.1 HO2.out.2 _ _))
end Go.Proofs.Ytdjjpaleemnikaa.OpR
namespace Go.Proofs.Ytdjjpaleemnikaa.OpR
open Go.ChangeShapes Go.WideShapes Go.ChangeAt Go.RowKit
set_option linter.unusedVariables false

/-- A server at work, in a variable. -/
def TkV (W : World) (P : Nat) (a : Option Addr) (n c B : Nat) : Prop := W.heap[P]? = some (.cells #[.slice a n c, .map (some B)] 75 (0, 0))
theorem TkV.lt {W : World} {P : Nat} {a : Option Addr} {n c B : Nat} (h : TkV W P a n c B) : P < W.heap.size := (Array.getElem?_eq_some_iff.1 h).1
theorem TkV.step {W W' : World} {P : Nat} {a : Option Addr} {n c B : Nat} (h : TkV W P a n c B) (hb : Below W.heap.size W W') : TkV W' P a n c B := (hb.block _ h.lt).trans h
theorem TkV.cells {W : World} {P : Nat} {a : Option Addr} {n c B : Nat} (h : TkV W P a n c B) : W.cell? ⟨P, 0, none⟩ = some (.slice a n c) ∧ W.cell? ⟨P, 1, none⟩ = some (.map (some B)) ∧ ∀ i, W.frozen? ⟨P, i, none⟩ = false := two h
def putAll (m : List (Int × SgtV)) (l : List OpV) : List (Int × SgtV) := l.foldl sgPutOp m
theorem putAll_take (m : List (Int × SgtV)) {l : List OpV} {k : Nat} (h : k < l.length) : putAll m (l.take (k + 1)) = sgPutOp (putAll m (l.take k)) l[k] := by
  unfold putAll
  rw [List.take_add_one, List.getElem?_eq_getElem h, List.foldl_append]
  rfl
set_option maxRecDepth 100000 in
set_option maxHeartbeats 1000000 in
theorem take_no (m : List (Int × SgtV)) (P B : Nat) (r fr : Int) (l0 l : List OpV) (la : Option Addr) (lc b off cap : Nat) (w : World) (hP : TkV w P la l0.length lc B) (more : List OpV) (T : Int) (hT : (T != 0) = true) (hT0 : T ≠ 0) (hfr : Calls Try.prog 62 #[.func (.func 41) #[.map (some B)] #[], .int .i64 r, .int .i64 fr, .slice (some ⟨b, off, none⟩) l.length cap] w fun e w' => FreshT w w' e b more T) : Calls Try.prog 40 #[.pointer (some ⟨P, 0, none⟩), .int .i64 r, .int .i64 fr, .slice (some ⟨b, off, none⟩) l.length cap] w fun e w' => e = .returned (.int .i64 T) ∧ Below w.heap.size w w' := by
  have hmf : ∀ (fn : Fn) (first cap : Array Value) (w : World), (Instr.makeFunc fn first cap).run Try.prog w = .ok (.func fn first cap) w := fun _ _ _ _ => rfl
  obtain ⟨p0, p1, _⟩ := hP.cells
  have HFr := hide hfr
  have HT0 := hide hT0
  clear hfr hT0 hP
  go_enter Try.func40, Try.ntmps40
  go_wp2_with (first | (go_at_call 62; (refine HFr.out.mono ?_); intro e w2 h2; obtain ⟨hb2, he2⟩ := h2; rw [if_neg HT0.out] at he2; subst he2; have HB2 := hide hb2; clear hb2) | fail)
  go_ret
  exact ⟨rfl, HB2.out⟩
set_option maxRecDepth 100000 in
set_option maxHeartbeats 1000000 in
theorem take_full (m : List (Int × SgtV)) (P B : Nat) (r fr : Int) (l0 l : List OpV) (la : Option Addr) (lc b off cap : Nat) (w : World) (hP : TkV w P la l0.length lc B) (more : List OpV) (hl0 : l0.length ≤ 150) (hml : more.length ≤ 400) (hful : 150 < l0.length + more.length) (hfr : Calls Try.prog 62 #[.func (.func 41) #[.map (some B)] #[], .int .i64 r, .int .i64 fr, .slice (some ⟨b, off, none⟩) l.length cap] w fun e w' => FreshT w w' e b more 0) : Calls Try.prog 40 #[.pointer (some ⟨P, 0, none⟩), .int .i64 r, .int .i64 fr, .slice (some ⟨b, off, none⟩) l.length cap] w fun e w' => e = .returned (.int .i64 5) ∧ Below w.heap.size w w' := by
  have hmf : ∀ (fn : Fn) (first cap : Array Value) (w : World), (Instr.makeFunc fn first cap).run Try.prog w = .ok (.func fn first cap) w := fun _ _ _ _ => rfl
  obtain ⟨p0, p1, fz⟩ := hP.cells
  have HFr := hide hfr
  have HP := hide hP
  have hwr : wrap64 ((l0.length : Int) + (more.length : Int)) = (l0.length : Int) + (more.length : Int) := by unfold wrap64; omega
  have hwr2 : IntKind.i64.wrap ((l0.length : Int) + (more.length : Int)) = (l0.length : Int) + (more.length : Int) := by rw [IntKind.wrap_i64]; omega
  have d1 : decide (150 < l0.length + more.length) = true := by simpa using hful
  have d2 : decide ((150 : Int) < (l0.length : Int) + (more.length : Int)) = true := by simp; omega
  clear hfr hP
  go_enter Try.func40, Try.ntmps40
  go_wp2_with (first | (go_at_call 62; (refine HFr.out.mono ?_); intro e w2 h2; obtain ⟨hb2, he2⟩ := h2; rw [if_pos rfl] at he2; obtain ⟨o2, c2, rfl, hc2, hat2⟩ := he2; have hP2 := HP.out.step hb2; have HP2 := hide hP2; have HB2 := hide hb2; have HAt2 := hide hat2; have hcc2 := hc2; clear p0 p1 fz hb2 hat2 hc2; obtain ⟨p0, p1, fz⟩ := hP2.cells; clear hP2) | fail)
  go_ret
  exact ⟨rfl, HB2.out⟩
theorem ops_grown {w w' : World} {row : Option Nat} {ao : Option Addr} {l : List OpV} (h : OpsAt w ao l) (hg : w.grownBy w' row) (hr : ∀ a, ao = some a → row ≠ some a.block) : OpsAt w' ao l := fun j hj => by
  obtain ⟨b, off, e, hlt, ho⟩ := h j hj
  exact ⟨b, off, e, Nat.lt_of_lt_of_le hlt hg.size, ho.block (hg.block b hlt (fun e2 => hr _ e e2.symm))⟩
/-- What holds while the fresh ops are taken. -/
structure TkS (base : Nat) (w W : World) (P : Nat) (a : Option Addr) (c B : Nat) (l : List OpV) (b o2 : Nat) (more : List OpV) : Prop where
  var : TkV W P a l.length c B
  ops : OpsAt W a l
  new : ∀ x, a = some x → base ≤ x.block ∧ x.block ≠ P ∧ x.block ≠ B
  more_ : OpsAt W (some ⟨b, o2, none⟩) more
  below : Below base w W
theorem TkS.grown {base : Nat} {w W W' : World} {P : Nat} {a : Option Addr} {c B : Nat} {l : List OpV} {b o2 : Nat} {more : List OpV} (h : TkS base w W P a c B l b o2 more) (hg : W.grownBy W' (some B)) (hne : P ≠ B) (hbb : b ≠ B) (hB : base ≤ B) (hsz : base ≤ W.heap.size) : TkS base w W' P a c B l b o2 more :=
  ⟨(hg.block P h.var.lt (fun e => hne (by cases e; rfl))).trans h.var, ops_grown h.ops hg (fun x e e2 => (h.new x e).2.2 (by cases e2; rfl)), h.new, ops_grown h.more_ hg (fun x e e2 => hbb (by cases e; cases e2; rfl)), h.below.grown hg hsz (fun k e => by cases e; exact hB)⟩
theorem TkS.step {base : Nat} {w W W' : World} {P : Nat} {a : Option Addr} {c B : Nat} {l : List OpV} {b o2 : Nat} {more : List OpV} (h : TkS base w W P a c B l b o2 more) (hb : Below W.heap.size W W') (hsz : base ≤ W.heap.size) : TkS base w W' P a c B l b o2 more :=
  ⟨h.var.step hb, h.ops.stays hb, h.new, h.more_.stays hb, h.below.trans (hb.mono hsz)⟩
end Go.Proofs.Ytdjjpaleemnikaa.OpR
namespace Go.Proofs.Ytdjjpaleemnikaa.OpR
open Go.ChangeShapes Go.WideShapes Go.ChangeAt Go.RowKit
set_option linter.unusedVariables false

theorem balloc (W : World) (o : Obj) : Below W.heap.size W (W.alloc o) := (Below.refl _ _).alloc (Nat.le_refl _) _
theorem lt_alloc (W : World) (o : Obj) : W.heap.size < (W.alloc o).heap.size := by rw [World.size_alloc]; exact Nat.lt_succ_self _
theorem row_low {w : World} {base c : Nat} {T : TypeId} {a : Option Addr} {n cap : Nat} {xs : List Value} (h : w.ownsRow base T 7 (.slice a n cap) n xs) (hb : c ≤ base) : ∀ x, a = some x → c ≤ x.block := fun x e => Nat.le_trans hb (h.lt x.block (by rw [e]; rfl)).1
theorem ops_setP {W : World} {P i : Nat} {v : Value} {a : Option Addr} {l : List OpV} (h : OpsAt W a l) (hne : ∀ x, a = some x → x.block ≠ P) : OpsAt (W.setCell ⟨P, i, none⟩ v) a l := h.block_ (by simp [World.setCell]) (fun x e => Below.heap_setCell _ _ _ _ (hne x e))
set_option maxRecDepth 100000 in
set_option maxHeartbeats 2000000 in
theorem take_ok (m : List (Int × SgtV)) (P B : Nat) (r fr : Int) (l0 l : List OpV) (la : Option Addr) (lc b off cap : Nat) (w : World) (hP : TkV w P la l0.length lc B) (more : List OpV) (base : Nat) (hl0 : l0.length ≤ 150) (hsum : l0.length + more.length ≤ 150) (hF : SgFew m l0.length) (hR : Repl64 more) (hPb : base ≤ P) (hBb : base ≤ B) (hne : P ≠ B) (hbb : b < base) (hbase : base ≤ w.heap.size) (hA : OpsAt w la l0) (hM : SgAt w B m) (hfr : Calls Try.prog 62 #[.func (.func 41) #[.map (some B)] #[], .int .i64 r, .int .i64 fr, .slice (some ⟨b, off, none⟩) l.length cap] w fun e w' => FreshT w w' e b more 0) :
    Calls Try.prog 40 #[.pointer (some ⟨P, 0, none⟩), .int .i64 r, .int .i64 fr, .slice (some ⟨b, off, none⟩) l.length cap] w fun e w' => e = .returned (.int .i64 0) ∧ ∃ a c o2, TkS base w w' P a c B (l0 ++ more) b o2 more ∧ SgAt w' B (putAll m more) := by
  have hmf : ∀ (fn : Fn) (first cap : Array Value) (w : World), (Instr.makeFunc fn first cap).run Try.prog w = .ok (.func fn first cap) w := fun _ _ _ _ => rfl
  obtain ⟨p0, p1, fz⟩ := hP.cells
  have HFr := hide hfr
  have HP := hide hP
  have HA := hide hA
  have HM := hide hM
  have HF := hide hF
  have HR := hide hR
  have hml : more.length ≤ 400 := by omega
  have hBlt := hM.lt
  have hPlt := hP.lt
  have HNe := hide hne
  have hwr : wrap64 ((l0.length : Int) + (more.length : Int)) = (l0.length : Int) + (more.length : Int) := by unfold wrap64; omega
  have d1 : decide (150 < l0.length + more.length) = false := by simp; omega
  have d2 : decide ((150 : Int) < (l0.length : Int) + (more.length : Int)) = false := by simp; omega
  obtain ⟨l9, hl9⟩ : ∃ l9, l9 = l0 ++ more := ⟨_, rfl⟩
  have HL9 := hide hl9
  clear hfr hP hA hM hF hR hne hl9
  go_enter Try.func40, Try.ntmps40
  go_wp2_with (first | (go_at_call 62; (refine HFr.out.mono ?_); intro e w2 h2; obtain ⟨hb2, he2⟩ := h2; rw [if_pos rfl] at he2; obtain ⟨o2, c2, rfl, hc2, hat2⟩ := he2; have hP2 := HP.out.step hb2; have HP2 := hide hP2; have HB2 := hide hb2; have HAt2 := hide hat2; have hcc2 := hc2; clear p0 p1 fz hb2 hat2 hc2; obtain ⟨p0, p1, fz⟩ := hP2.cells; have pa : ∀ o, (w2.alloc o).cell? ⟨P, 0, none⟩ = some (.slice la l0.length lc) := (fun o => (World.cell?_alloc_lt _ _ _ hP2.lt).trans p0); clear hP2) | (go_at_call 63; have hal := (fun T => two (heap_alloc_new w2 (.cells #[.slice la l0.length lc, .slice (some ⟨b, o2, none⟩) more.length c2] T))); (refine (concat_any l0 more la (some ⟨b, o2, none⟩) lc c2 w2.heap.size _ hl0 hml (lt_alloc _ _) (hal _).1 (hal _).2.1 ((HA.out.stays HB2.out).stays (balloc w2 _)) ((HAt2.out _ HB2.out).stays (balloc w2 _))).mono ?_); rintro e w3 ⟨v3, rfl, ho3, hb3⟩; rw [← HL9.out] at ho3; obtain ⟨ao3, c3, rfl, _, hat3⟩ := owns_at ho3; have hb3q := (balloc w2 _).trans (hb3.mono (base_alloc _ _)); have hlo3 := row_low ho3 (base_alloc _ _); have hP3 := HP2.out.step hb3q; have HB3 := hide hb3q; have HX3 := hide (And.intro hat3 hlo3); have HP3 := hide hP3; clear hal p0 p1 fz pa ho3 hb3 hat3 hb3q hlo3; obtain ⟨p0, p1, fz⟩ := hP3.cells; clear hP3) | fail)
  have hs2 := HB2.out.size
  have hs3 := HB3.out.size
  have hne0 := HNe.out
  have hS0 : TkS base w (w3.setCell ⟨P, 0, none⟩ (.slice ao3 l9.length c3)) P ao3 c3 B l9 b o2 more := by
    refine ⟨(set_block HP3.out 0 (.slice ao3 l9.length c3)).trans rfl, ops_setP HX3.out.1 (fun x e => by have := HX3.out.2 x e; omega), fun x e => by have := HX3.out.2 x e; omega, ops_setP (HAt2.out _ (HB2.out.trans (HB3.out.mono hs2))) (fun x e => by cases e; show b ≠ P; omega), ?_⟩
    exact ((HB2.out.trans (HB3.out.mono hs2)).mono hbase).setCell (p := ⟨P, 0, none⟩) hPb _
  have hM0 : SgAt (w3.setCell ⟨P, 0, none⟩ (.slice ao3 l9.length c3)) B m := ((HM.out.stays HB2.out).stays HB3.out).setCell (fun e => hne0 e.symm)
  have HS0 := hide hS0
  have HM0 := hide hM0
  have hsz0 : base ≤ (w3.setCell ⟨P, 0, none⟩ (.slice ao3 l9.length c3)).heap.size := by simp [World.setCell]; omega
  clear hS0 hM0 p0 p1 fz
  go_loopw [49] (fun i wr => ∃ k : Nat, k ≤ more.length ∧ i = .int .i64 k ∧ SgAt wr B (putAll m (more.take k)) ∧ SgFew (putAll m (more.take k)) (l0.length + k) ∧ TkS base w wr P ao3 c3 B l9 b o2 more ∧ base ≤ wr.heap.size) (fun i _ => more.length - (intOf i).toNat)
  case atStart => exact ⟨0, by omega, rfl, HM0.out, HF.out, HS0.out, hsz0⟩
  case round =>
    obtain ⟨k, hk, rfl, hM, hF, hS, hsz⟩ := hrel
    by_cases h : k < more.length
    · obtain ⟨b', off', eb, hlt, ho⟩ := hS.more_ k h
      cases eb
      obtain ⟨c0, c1, c2', c3', c4, c5, c6⟩ := ho
      have hi0 : (0 : Int) ≤ (k : Int) := by omega
      have hi1 : (k : Int) < (more.length : Int) := by omega
      have hcell : ∀ W : World, W.heap[P]? = some (.cells #[.slice ao3 l9.length c3, .map (some B)] 75 (0, 0)) → W.heap[wr.heap.size]? = some (.cells #[.int .i64 more[k].time, .int .i64 more[k].repl, .int .i64 more[k].kind, .int .i64 more[k].node, .int .i64 more[k].parent, .string more[k].name, .string more[k].value] 59 (0, 0)) → W.cell? ⟨P, 1, none⟩ = some (.map (some B)) ∧ W.cell? ⟨wr.heap.size, 0, none⟩ = some (.int .i64 more[k].time) ∧ W.cell? ⟨wr.heap.size, 1, none⟩ = some (.int .i64 more[k].repl) ∧ W.cell? ⟨wr.heap.size, 2, none⟩ = some (.int .i64 more[k].kind) ∧ W.cell? ⟨wr.heap.size, 3, none⟩ = some (.int .i64 more[k].node) ∧ W.cell? ⟨wr.heap.size, 4, none⟩ = some (.int .i64 more[k].parent) ∧ W.cell? ⟨wr.heap.size, 5, none⟩ = some (.string more[k].name) ∧ W.cell? ⟨wr.heap.size, 6, none⟩ = some (.string more[k].value) := by
        intro W h1 h2
        refine ⟨?_, ?_, ?_, ?_, ?_, ?_, ?_, ?_⟩ <;> simp [World.cell?, h1, h2]
      have hn := heap_alloc_new wr (.cells #[.int .i64 more[k].time, .int .i64 more[k].repl, .int .i64 more[k].kind, .int .i64 more[k].node, .int .i64 more[k].parent, .string more[k].name, .string more[k].value] 59)
      have hv := (hS.var.step (balloc wr (.cells #[.int .i64 more[k].time, .int .i64 more[k].repl, .int .i64 more[k].kind, .int .i64 more[k].node, .int .i64 more[k].parent, .string more[k].name, .string more[k].value] 59)))
      have hd0 := hcell (wr.alloc (.cells #[.int .i64 more[k].time, .int .i64 more[k].repl, .int .i64 more[k].kind, .int .i64 more[k].node, .int .i64 more[k].parent, .string more[k].name, .string more[k].value] 59)) hv hn
      have hd1 := hcell (wr.alloc (.cells #[.int .i64 more[k].time, .int .i64 more[k].repl, .int .i64 more[k].kind, .int .i64 more[k].node, .int .i64 more[k].parent, .string more[k].name, .string more[k].value] 59)).drew hv hn
      have hfm := hF.2 more[k].repl
      have hfl := hF.1
      have had := fun W (hW : SgAt W B (putAll m (more.take k))) => addSeen_any (putAll m (more.take k)) B more[k] W (HR.out _ (List.getElem_mem h)) (by omega) (by omega) hW
      have HM1 := hide ((hM.stays (balloc wr (.cells #[.int .i64 more[k].time, .int .i64 more[k].repl, .int .i64 more[k].kind, .int .i64 more[k].node, .int .i64 more[k].parent, .string more[k].name, .string more[k].value] 59))))
      have HS1 := hide (hS.step (balloc wr (.cells #[.int .i64 more[k].time, .int .i64 more[k].repl, .int .i64 more[k].kind, .int .i64 more[k].node, .int .i64 more[k].parent, .string more[k].name, .string more[k].value] 59)) hsz)
      have HF1 := hide hF
      unfold OpV.agg at had
      have HAd := hide had
      have hsz1 : base ≤ (wr.alloc (.cells #[.int .i64 more[k].time, .int .i64 more[k].repl, .int .i64 more[k].kind, .int .i64 more[k].node, .int .i64 more[k].parent, .string more[k].name, .string more[k].value] 59)).heap.size := Nat.le_trans hsz (base_alloc _ _)
      have HV := hide hv
      have hnB : wr.heap.size ≠ B := fun e => by have := hM.lt; omega
      have HNn := hide (And.intro (lt_alloc wr (.cells #[.int .i64 more[k].time, .int .i64 more[k].repl, .int .i64 more[k].kind, .int .i64 more[k].node, .int .i64 more[k].parent, .string more[k].name, .string more[k].value] 59)) (And.intro hn hnB))
      have HCell := hide hcell
      clear hM hF hS hn hv had hcell hfm hfl hnB
      go_wp2
      go_region_held3 (fun W => W.cell? ⟨P, 1, none⟩ = some (.map (some B)) ∧ W.cell? ⟨wr.heap.size, 0, none⟩ = some (.int .i64 more[k].time) ∧ W.cell? ⟨wr.heap.size, 1, none⟩ = some (.int .i64 more[k].repl) ∧ W.cell? ⟨wr.heap.size, 2, none⟩ = some (.int .i64 more[k].kind) ∧ W.cell? ⟨wr.heap.size, 3, none⟩ = some (.int .i64 more[k].node) ∧ W.cell? ⟨wr.heap.size, 4, none⟩ = some (.int .i64 more[k].parent) ∧ W.cell? ⟨wr.heap.size, 5, none⟩ = some (.string more[k].name) ∧ W.cell? ⟨wr.heap.size, 6, none⟩ = some (.string more[k].value)) (first | with_reducible exact hd0 | with_reducible exact hd1 | with_reducible exact hd2 | fail) (first | (go_at_call 64; refine (HAd.out _ (HM1.out.stays (Below.refl _ _).drew)).mono ?_; rintro e w4 ⟨⟨v4, rfl⟩, hM4, hg4⟩; have HM4 := hide hM4; have hd2 := HCell.out w4 ((hg4.block P HV.out.lt (fun e => HNe.out (by cases e; rfl))).trans HV.out) ((hg4.block wr.heap.size HNn.out.1 (fun e => HNn.out.2.2 (by cases e; rfl))).trans HNn.out.2.1); have HG4 := hide hg4; clear hM4 hg4) | fail)
      go_wp2
      go_roundw
      case rel =>
        have hS4 := (HS1.out.step (Below.refl _ _).drew hsz1).grown HG4.out HNe.out (by omega) hBb hsz1
        exact ⟨k + 1, by omega, by go_num, by rw [putAll_take m h]; exact HM4.out, by rw [putAll_take m h]; exact HF1.out.put _, hS4, Nat.le_trans hsz1 HG4.out.size⟩
      case measure => simp [intOf]; omega
    · obtain rfl : k = more.length := by omega
      have HMe := hide hM
      have HSe := hide hS
      clear hM hS hF
      go_wp2
      go_ret
      have hMe := HMe.out
      rw [List.take_length] at hMe
      exact ⟨rfl, ao3, c3, o2, by rw [← HL9.out]; exact HSe.out, hMe⟩
end Go.Proofs.Ytdjjpaleemnikaa.OpR
namespace Go.Proofs.Ytdjjpaleemnikaa.OpR
open Go.ChangeShapes Go.WideShapes Go.ChangeAt Go.RowKit
set_option linter.unusedVariables false

/-- What Upload answers at a right server and what may be sent, by the map of what was seen. -/
def upTold (m : List (Int × SgtV)) (s : SrvV) (r fr : Int) (l : List OpV) : SOutV :=
  if (sgOf m r).many < fr then SOutV.ill (sgOf m r).many 8
  else if lateB (sgOf m r) (freshOps (sgOf m r).many fr l) = true then SOutV.ill 0 7
  else if 150 < s.ops.length + (freshOps (sgOf m r).many fr l).length then SOutV.ill 0 9
  else ⟨⟨s.ops ++ freshOps (sgOf m r).many fr l, seenL (putAll m (freshOps (sgOf m r).many fr l))⟩, [], (sgOf (putAll m (freshOps (sgOf m r).many fr l)) r).many, 0⟩
def upRes (s : SrvV) (r fr : Int) (l : List OpV) : SOutV :=
  if 400 < l.length then SOutV.ill 0 2
  else if (srvRight s && sentR r fr l) = false then SOutV.ill 0 1
  else match seenGo [] s.ops with
    | none => SOutV.ill 0 1
    | some m => upTold m s r fr l
set_option maxRecDepth 100000 in
set_option maxHeartbeats 1000000 in
theorem iUp_1 (s : SrvV) (b off lc : Nat) (sa : Option Addr) (sc : Nat) (r fr : Int) (l : List OpV) (bl ol cl : Nat) (w : World) (hz : SSz 1048576 s) (hlc : s.ops.length ≤ lc) (hA : OpsAt w (some ⟨b, off, none⟩) s.ops) (hB : SeensAt w sa s.seen) (hll : l.length ≤ 1048576) (hcl : l.length ≤ cl) (hL : OpsAt w (some ⟨bl, ol, none⟩) l) (hLz : Sized l) (hbl : bl < w.heap.size) (h1 : 400 < l.length) : Calls Try.prog 10 #[s.agg (some ⟨b, off, none⟩) lc sa sc, .int .i64 r, .int .i64 fr, .slice (some ⟨bl, ol, none⟩) l.length cl] w fun e w' => IvT w w' e (SOutV.ill 0 2) := by
  have hr := fun W (hW : Below w.heap.size w W) => serving_any s (some ⟨b, off, none⟩) sa lc sc W (Nat.le_trans hz.ops (by unfold maxLen; omega)) hlc (fun o ho => ⟨Nat.le_trans (hz.osz o ho).1 (by unfold maxLen; omega), Nat.le_trans (hz.osz o ho).2 (by unfold maxLen; omega)⟩) hz.seen (hA.stays hW) (hB.stays hW)
  have hsn := fun W (hW : Below w.heap.size w W) => sent_any r fr l (some ⟨bl, ol, none⟩) cl W hll (hL.stays hW) hLz
  have hB0 := SD.start w s (some ⟨b, off, none⟩) lc sa sc
  have HB0 := hide hB0
  obtain ⟨p0, p1⟩ := hB0.sb.cells
  have HR := hide hr
  have HSn := hide hsn
  have d1 : decide (400 < l.length) = true := by simpa using h1
  unfold SrvV.agg at *
  clear hr hsn hB0 hA hB hz hL hLz
  go_enter Try.func10, Try.ntmps10
  go_wp2_with (first | (go_at_call 37; (refine (code_any _ (by omega) _).mono ?_); intro e we h2; obtain ⟨rfl, hwe⟩ := h2; have hBe := HB0.out; rw [hwe] at hBe; clear hwe; have HBe := hide hBe; obtain ⟨r0, r1, r2, r3, r4, fr_⟩ := five_ hBe.res; clear hBe) | fail)
  refine bodyPost_ret (v := .agg #[.slice none 0 0, .slice none 0 0, .slice none 0 0, .int .i64 0, .int .i64 2]) (by simp [results, Try.results10, go_sem, codeOf, r0, r1, r2, r3, r4]) rfl (IvT.ill (below5 HBe.out.sb.below (by omega) _ _ _ _ _))
set_option maxRecDepth 100000 in
set_option maxHeartbeats 1000000 in
theorem iUp_2 (s : SrvV) (b off lc : Nat) (sa : Option Addr) (sc : Nat) (r fr : Int) (l : List OpV) (bl ol cl : Nat) (w : World) (hz : SSz 1048576 s) (hlc : s.ops.length ≤ lc) (hA : OpsAt w (some ⟨b, off, none⟩) s.ops) (hB : SeensAt w sa s.seen) (hll : l.length ≤ 1048576) (hcl : l.length ≤ cl) (hL : OpsAt w (some ⟨bl, ol, none⟩) l) (hLz : Sized l) (hbl : bl < w.heap.size) (h1 : ¬ 400 < l.length) (hsr : srvRight s = false) : Calls Try.prog 10 #[s.agg (some ⟨b, off, none⟩) lc sa sc, .int .i64 r, .int .i64 fr, .slice (some ⟨bl, ol, none⟩) l.length cl] w fun e w' => IvT w w' e (SOutV.ill 0 1) := by
  have hr := fun W (hW : Below w.heap.size w W) => serving_any s (some ⟨b, off, none⟩) sa lc sc W (Nat.le_trans hz.ops (by unfold maxLen; omega)) hlc (fun o ho => ⟨Nat.le_trans (hz.osz o ho).1 (by unfold maxLen; omega), Nat.le_trans (hz.osz o ho).2 (by unfold maxLen; omega)⟩) hz.seen (hA.stays hW) (hB.stays hW)
  have hsn := fun W (hW : Below w.heap.size w W) => sent_any r fr l (some ⟨bl, ol, none⟩) cl W hll (hL.stays hW) hLz
  have hB0 := SD.start w s (some ⟨b, off, none⟩) lc sa sc
  have HB0 := hide hB0
  obtain ⟨p0, p1⟩ := hB0.sb.cells
  have HR := hide hr
  have HSn := hide hsn
  have d1 : decide (400 < l.length) = false := by simpa using h1
  have HSr := hide hsr
  unfold SrvV.agg at *
  clear hr hsn hB0 hA hB hz hL hLz hsr
  go_enter Try.func10, Try.ntmps10
  go_wp2_with (first | (go_at_call 38; (refine (HR.out _ HB0.out.sb.below).mono ?_); intro e w1 h1; obtain ⟨a1, n1, c1, x1, he, hb1, hm1⟩ := h1; rw [HSr.out] at he; subst he; have hB1 := HB0.out.step (hb1.trans (balloc w1 (.cells #[.slice a1 n1 c1, .map x1] 75) |>.mono hb1.size)); have HB1 := hide hB1; clear p0 p1 hb1 hm1 hB1) | (go_at_call 37; (refine (code_any _ (by omega) _).mono ?_); intro e we h2; obtain ⟨rfl, hwe⟩ := h2; have hBe := HB1.out; rw [hwe] at hBe; clear hwe; have HBe := hide hBe; obtain ⟨r0, r1, r2, r3, r4, fr_⟩ := five_ hBe.res; clear hBe) | fail)
  refine bodyPost_ret (v := .agg #[.slice none 0 0, .slice none 0 0, .slice none 0 0, .int .i64 0, .int .i64 1]) (by simp [results, Try.results10, go_sem, codeOf, r0, r1, r2, r3, r4]) rfl (IvT.ill (below5 HBe.out.sb.below (by omega) _ _ _ _ _))
set_option maxRecDepth 100000 in
set_option maxHeartbeats 1000000 in
theorem iUp_3 (s : SrvV) (b off lc : Nat) (sa : Option Addr) (sc : Nat) (r fr : Int) (l : List OpV) (bl ol cl : Nat) (w : World) (hz : SSz 1048576 s) (hlc : s.ops.length ≤ lc) (hA : OpsAt w (some ⟨b, off, none⟩) s.ops) (hB : SeensAt w sa s.seen) (hll : l.length ≤ 1048576) (hcl : l.length ≤ cl) (hL : OpsAt w (some ⟨bl, ol, none⟩) l) (hLz : Sized l) (hbl : bl < w.heap.size) (h1 : ¬ 400 < l.length) (hsr : srvRight s = true) (hse : sentR r fr l = false) : Calls Try.prog 10 #[s.agg (some ⟨b, off, none⟩) lc sa sc, .int .i64 r, .int .i64 fr, .slice (some ⟨bl, ol, none⟩) l.length cl] w fun e w' => IvT w w' e (SOutV.ill 0 1) := by
  have hr := fun W (hW : Below w.heap.size w W) => serving_any s (some ⟨b, off, none⟩) sa lc sc W (Nat.le_trans hz.ops (by unfold maxLen; omega)) hlc (fun o ho => ⟨Nat.le_trans (hz.osz o ho).1 (by unfold maxLen; omega), Nat.le_trans (hz.osz o ho).2 (by unfold maxLen; omega)⟩) hz.seen (hA.stays hW) (hB.stays hW)
  have hsn := fun W (hW : Below w.heap.size w W) => sent_any r fr l (some ⟨bl, ol, none⟩) cl W hll (hL.stays hW) hLz
  have hB0 := SD.start w s (some ⟨b, off, none⟩) lc sa sc
  have HB0 := hide hB0
  obtain ⟨p0, p1⟩ := hB0.sb.cells
  have HR := hide hr
  have HSn := hide hsn
  have d1 : decide (400 < l.length) = false := by simpa using h1
  have HSr := hide hsr
  have HSe := hide hse
  unfold SrvV.agg at *
  clear hr hsn hB0 hA hB hz hL hLz hsr hse
  go_enter Try.func10, Try.ntmps10
  go_wp2_with (first | (go_at_call 38; (refine (HR.out _ HB0.out.sb.below).mono ?_); intro e w1 h1; obtain ⟨a1, n1, c1, x1, he, hb1, hm1⟩ := h1; rw [HSr.out] at he; subst he; have hB1 := HB0.out.step (hb1.trans (balloc w1 (.cells #[.slice a1 n1 c1, .map x1] 75) |>.mono hb1.size)); have HB1 := hide hB1; clear p0 p1 hb1 hm1 hB1) | (go_at_call 39; (refine (HSn.out _ HB1.out.sb.below).mono ?_); rintro e w2 ⟨rfl, hb2⟩; rw [HSe.out]; have HB2 := hide (HB1.out.step hb2); clear hb2) | (go_at_call 37; (refine (code_any _ (by omega) _).mono ?_); intro e we h2; obtain ⟨rfl, hwe⟩ := h2; have hBe := HB2.out; rw [hwe] at hBe; clear hwe; have HBe := hide hBe; obtain ⟨r0, r1, r2, r3, r4, fr_⟩ := five_ hBe.res; clear hBe) | fail)
  refine bodyPost_ret (v := .agg #[.slice none 0 0, .slice none 0 0, .slice none 0 0, .int .i64 0, .int .i64 1]) (by simp [results, Try.results10, go_sem, codeOf, r0, r1, r2, r3, r4]) rfl (IvT.ill (below5 HBe.out.sb.below (by omega) _ _ _ _ _))
end Go.Proofs.Ytdjjpaleemnikaa.OpR
