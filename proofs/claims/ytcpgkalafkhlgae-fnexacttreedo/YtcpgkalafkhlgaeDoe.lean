/- Proves what impl.merged makes of two rows of nodes: one row, in memory of its own. Proves what impl.merged makes of two rows of props: one row, in memory of its own. Proves what impl.sorted makes of nodes: the same nodes, in order, in new memory. Plain mathematics of the bytes of a number, seven bits a byte: no program is named here. Proves what impl.joined answers: of at most 2^20 texts of together at most 2^40 bytes that lie in one row their bytes put together, in new memory alone. -/
import Derived.Test.YtcpgkalafkhlgaeDod
import Derived.Test.YtcpgkalafkhlgaeRows
import Derived.WalkKit
import Derived.WalkSpells
import Derived.WalkLawsBesides
import Derived.ProofKit
import Derived.Deep.Light
import Derived.Deep.AppendLies
import Derived.Lib.BufferWrite
import Derived.Lib.SlBuf
import Derived.Deep.WholeRow
import Derived.Deep.OwnRows
namespace Go.Proofs.Ytcpgkalafkhlgae.OpR
open Go.ChangeShapes Go.WideShapes Go.ChangeAt Go.RowKit
set_option linter.unusedVariables false

def ltN (a b : NodG) : Bool := decide (a.id < b.id)
def leN (a b : NodG) : Bool := !ltN b a
def mrgN (a b : List NodG) : List NodG := List.merge a b leN
theorem mrgN_nil_left (b : List NodG) : mrgN [] b = b := by simp [mrgN]
theorem mrgN_nil_right (a : List NodG) : mrgN a [] = a := by simp [mrgN]
theorem mrgN_right {x y : NodG} (a b : List NodG) (h : ltN y x = true) : mrgN (x :: a) (y :: b) = y :: mrgN (x :: a) b := by
  unfold mrgN; rw [List.cons_merge_cons]; simp [leN, h]
theorem mrgN_left {x y : NodG} (a b : List NodG) (h : ltN y x = false) : mrgN (x :: a) (y :: b) = x :: mrgN a (y :: b) := by
  unfold mrgN; rw [List.cons_merge_cons]; simp [leN, h]
theorem mrgN_perm (a b : List NodG) : (mrgN a b).Perm (a ++ b) := List.merge_perm_append leN
theorem mrgN_len (a b : List NodG) : (mrgN a b).length = a.length + b.length := by rw [(mrgN_perm a b).length_eq, List.length_append]
/-- The cells of the nodes of a slice. -/
def NCells (w : World) (ao : Option Addr) (l : List NodG) : Prop := ∀ j (hj : j < l.length), ∃ b off, ao = some ⟨b, off, none⟩ ∧ b < w.heap.size ∧ NodAt w b (off + j * 4) l[j]
theorem NCells.stays {w w' : World} {ao : Option Addr} {l : List NodG} (h : NCells w ao l) (hb : Below w.heap.size w w') : NCells w' ao l := fun j hj => by
  obtain ⟨b, off, e, hlt, ho⟩ := h j hj
  exact ⟨b, off, e, Nat.lt_of_lt_of_le hlt hb.size, ho.block (hb.block b hlt)⟩
theorem NodesAt.cells {w : World} {ao : Option Addr} {l : List NodG} (h : NodesAt w ao l) : NCells w ao l := fun j hj => by
  obtain ⟨b, off, e, hlt, ho, _⟩ := h j hj
  exact ⟨b, off, e, hlt, ho⟩
theorem NCells.nodes {w : World} {ao : Option Addr} {l : List NodG} (h : NCells w ao l) (hp : ∀ n ∈ l, PropsAt w n.pao n.props) : NodesAt w ao l := fun j hj => by
  obtain ⟨b, off, e, hlt, ho⟩ := h j hj
  exact ⟨b, off, e, hlt, ho, hp _ (List.getElem_mem hj)⟩
theorem NCells.at0N {w : World} {b off : Nat} {l : List NodG} (h : NCells w (some ⟨b, off, none⟩) l) {k : Nat} (hk : k < l.length) : NodAt w b (off + k * 4) l[k] := by
  obtain ⟨b', off', e, _, ho⟩ := h k hk
  cases e
  exact ho
theorem NCells.news {w : World} {ad : Addr} {l : List NodG} (h : NCells w (some ad) l) : ∀ j u, (flatG NodG.cells l)[j]? = some u → w.cell? (ad.add j) = some u := by
  intro j u hu
  have hj : j < l.length * 4 := by rw [← flatG_len nod_len]; exact (List.getElem?_eq_some_iff.1 hu).1
  obtain ⟨k, f, rfl, hf⟩ : ∃ k f, j = k * 4 + f ∧ f < 4 := ⟨j / 4, j % 4, by omega, by omega⟩
  have hk : k < l.length := by omega
  rw [flatG_get nod_len l k f hk hf] at hu
  obtain ⟨b', off', e, _, c0, c1, c2, c3⟩ := h k hk
  cases e
  rw [Addr.add_lit]
  match f, hf with
  | 0, _ => exact c0.trans hu
  | 1, _ => exact c1.trans hu
  | 2, _ => exact c2.trans hu
  | 3, _ => exact c3.trans hu
theorem NCells.nil_of {w : World} {l : List NodG} (h : NCells w none l) : l = [] := by
  cases l with
  | nil => rfl
  | cons o r => obtain ⟨b, off, e, _⟩ := h 0 (by simp); cases e
theorem oneN : ∀ (l : List NodG), ∀ u ∈ flatG NodG.cells l, u.oneCell' = true := by
  intro l u hu
  obtain ⟨o, _, ho⟩ := List.mem_flatMap.1 hu
  simp only [NodG.cells, List.mem_cons, List.not_mem_nil, or_false] at ho
  rcases ho with rfl | rfl | rfl | rfl <;> rfl
theorem one1N (o : NodG) : ∀ u ∈ o.cells, u.oneCell' = true := fun u hu => oneN [o] u (by simpa [flatG] using hu)
/-- A row that the call owns, at a place. -/
def OwnN (w : World) (base : Nat) (v : Value) (l : List NodG) : Prop := w.ownsRow base 79 4 v l.length (flatG NodG.cells l) ∧ v ≠ .slice none 0 0
theorem OwnN.at {w : World} {base : Nat} {v : Value} {l : List NodG} (h : OwnN w base v l) : ∃ g cap, v = .slice (some ⟨g, 0, none⟩) l.length cap ∧ base ≤ g ∧ g < w.heap.size ∧ l.length ≤ cap ∧ cap ≤ maxLen := by
  rcases h.1.2 with ⟨e, _⟩ | ⟨g, cap, cur, rfl, hb, hg, hl, hm, hs, ht⟩
  · exact absurd e h.2
  · exact ⟨g, cap, rfl, hb, (Array.getElem?_eq_some_iff.1 hg).1, hl, hm⟩
theorem OwnN.below {w w' : World} {base : Nat} {v : Value} {l : List NodG} (h : OwnN w base v l) (hb : Below w.heap.size w w') : OwnN w' base v l :=
  ⟨h.1.kept (row := none) ⟨hb.os, hb.tape, hb.output, hb.size, fun k hk _ => hb.block k hk⟩ (by cases hv : v.ownBlock <;> simp), h.2⟩
theorem owns_cellsN {w : World} {base : Nat} {ao : Option Addr} {cap : Nat} {l : List NodG} (h : w.ownsRow base 79 4 (.slice ao l.length cap) l.length (flatG NodG.cells l)) : NCells w ao l := by
  rcases h.2 with ⟨e, hn⟩ | ⟨g, cap', cur, e, hb, hg, h1, h2, h3, h4⟩
  · rw [List.eq_nil_of_length_eq_zero hn]
    exact fun j hj => absurd hj (by simp)
  · simp only [Value.slice.injEq] at e
    obtain ⟨rfl, _, _⟩ := e
    intro j hj
    refine ⟨g, 0, rfl, (Array.getElem?_eq_some_iff.1 hg).1, ?_⟩
    have hc := fun f (hf : f < 4) (u : Value) (hu : l[j].cells[f]? = some u) => h.cells rfl (j * 4 + f) u ((flatG_get nod_len l j f hj hf).trans hu)
    simp only [Addr.add_lit] at hc
    exact ⟨hc 0 (by omega) _ rfl, hc 1 (by omega) _ rfl, hc 2 (by omega) _ rfl, hc 3 (by omega) _ rfl⟩
theorem owns_atN {w : World} {base : Nat} {v : Value} {l : List NodG} (h : w.ownsRow base 79 4 v l.length (flatG NodG.cells l)) : ∃ ao c, v = .slice ao l.length c ∧ l.length ≤ c ∧ NCells w ao l := by
  have h' := h
  rcases h.2 with ⟨e, hn⟩ | ⟨g, cap', cur, e, hb, hg, h1, h2, h3, h4⟩
  · have hl : l = [] := List.eq_nil_of_length_eq_zero hn
    subst hl
    exact ⟨none, 0, e, Nat.le_refl _, fun j hj => absurd hj (by simp)⟩
  · rw [e] at h'
    exact ⟨_, cap', e, h1, owns_cellsN h'⟩
/-- Elements appended to a row that the call owns: whatever slice they lie in, nil too. -/
theorem wpList_append_N {ops : Array Oper} {rest : List Oper} {o : Oper} {a : Act} {w : World} {Q : Exit → Act → World → Prop} (hgd : o.guard = none) (s x : Operand)
    (ho : o.op = .call { callee := .builtin .append, args := #[s, x], argTypes := #[41, 41] })
    (base : Nat) (v : Value) (out : List NodG) (hs : a.eval s = v) (hown : w.ownsRow base 79 4 v out.length (flatG NodG.cells out))
    (ao : Option Addr) (m : List NodG) (c : Nat) (hx : a.eval x = .slice ao m.length c) (hA : NCells w ao m)
    (hlen : out.length + m.length ≤ 2200000) (hbase : base ≤ w.heap.size)
    (h : ∀ v' w', w'.ownsRow base 79 4 v' (out ++ m).length (flatG NodG.cells (out ++ m)) → w.grownBy w' v.ownBlock → (v' = .slice none 0 0 ↔ v = .slice none 0 0 ∧ m.length = 0) → wpList Try.prog ops Q rest (a.put o.dst v') w') : wpList Try.prog ops Q (o :: rest) a w := by
  obtain ⟨i0, hi, hzz⟩ := Option.map_eq_some_iff.1 infoNode
  simp only [Prod.mk.injEq] at hzz
  obtain ⟨hz0, hz1, hz2⟩ := hzz
  have hm : maxLen = 9223372036854775807 := rfl
  cases ao with
  | some ad =>
    refine wpList_append_own _ hgd s x 41 ho base 79 i0 _ 4 56 Try.underlying41 hi hz0 hz1 hz2 rfl (by decide) v out.length (flatG NodG.cells out) hs hown ad m.length c (flatG NodG.cells m) hx (flatG_len nod_len m) hA.news (oneN m) (by omega) (by omega) hbase (fun v' w' h1 h2 h3 => h v' w' ?_ h2 h3)
    rw [List.length_append, flatG_app]; exact h1
  | none =>
    obtain rfl := hA.nil_of
    have hrun : (Builtin.append_ #[41, 41] o.type #[v, .slice none 0 c]).run Try.prog w = .ok v w := by
      rcases hown.2 with ⟨rfl, _⟩ | ⟨g, cap, cur, rfl, _, _, hnc, _⟩
      · simp [Builtin.append_, run_underlying Try.underlying41, sizeOf, typeInfo, hi, Builtin.lenOf, Builtin.firstCells]
      · simp [Builtin.append_, run_underlying Try.underlying41, sizeOf, typeInfo, hi, Builtin.lenOf, Builtin.firstCells, loadCells, storeCells, hnc]
    refine wpList_plain hgd fun K hK => ?_
    have hx' : a.eval x = .slice none 0 c := hx
    unfold Oper.wp execOp
    simp only [ho, resolve, invoke, builtin, Sem.run_bind, Sem.run_pure, Result.andThen_ok, List.map_toArray, List.map_cons, List.map_nil, hs, hx', hrun]
    refine hK _ _ (h v w ?_ ⟨rfl, rfl, rfl, Nat.le_refl _, fun _ _ _ => rfl⟩ (by simp))
    rw [List.append_nil]; exact hown
/-- Where a slice from k on begins. -/
def fromN (o cap k : Nat) : Nat := if cap = k then o else o + k * 4
theorem slice_fromN (W : World) (g o len cap k : Nat) (K : Int) (hK : K = (k : Int)) (h : k ≤ len) :
    (Instr.slice 41 (.slice (some ⟨g, o, none⟩) len cap) (some (.int .i64 K)) none none).run Try.prog W = .ok (.slice (some ⟨g, fromN o cap k, none⟩) (len - k) (cap - k)) W := by
  subst hK
  have ht : Try.prog.underlying 41 = some (.slice (Try.prog.elem 41)) := by kernel_rfl
  have hs : ∀ w, (sizeOf (Try.prog.elem 41)).run Try.prog w = .ok 4 w := fun _ => by kernel_rfl
  rw [run_slice_l W 41 (some ⟨g, o, none⟩) len cap ht .i64 (k : Int) (by omega) (by omega), hs]
  simp only [Result.andThen, sliced, Int.toNat_natCast, Option.map_some, add_plain]
  unfold fromN
  by_cases e : cap = k
  · simp [e]
  · simp [e]
theorem slice_cutN (W : World) (g o len cap k : Nat) (K : Int) (hK : K = (k : Int)) (h : k ≤ cap) :
    (Instr.slice 41 (.slice (some ⟨g, o, none⟩) len cap) none (some (.int .i64 K)) (some (.int .i64 K))).run Try.prog W = .ok (.slice (some ⟨g, o, none⟩) k k) W := by
  subst hK
  have ht : Try.prog.underlying 41 = some (.slice (Try.prog.elem 41)) := by kernel_rfl
  have hs : ∀ w, (sizeOf (Try.prog.elem 41)).run Try.prog w = .ok 4 w := fun _ => by kernel_rfl
  rw [run_slice_hm W 41 (some ⟨g, o, none⟩) len cap ht .i64 .i64 (k : Int) (k : Int) (by omega) (by omega) (by omega), hs]
  simp [Result.andThen, sliced, Addr.add]
theorem NCells.from {w : World} {g o : Nat} {l : List NodG} (h : NCells w (some ⟨g, o, none⟩) l) {cap : Nat} (k : Nat) (hc : l.length ≤ cap) : NCells w (some ⟨g, fromN o cap k, none⟩) (l.drop k) := fun j hj => by
  have hj' : k + j < l.length := by rw [List.length_drop] at hj; omega
  have ho := h.at0N hj'
  obtain ⟨_, _, e, hlt, _⟩ := h (k + j) hj'
  cases e
  refine ⟨g, fromN o cap k, rfl, hlt, ?_⟩
  rw [List.getElem_drop]
  unfold fromN
  rw [if_neg (by omega), Nat.add_assoc, ← Nat.add_mul]
  exact ho
theorem NCells.take {w : World} {b off : Nat} {l : List NodG} (h : NCells w (some ⟨b, off, none⟩) l) (k : Nat) : NCells w (some ⟨b, off, none⟩) (l.take k) := fun j hj => by
  have hj' : j < l.length := by rw [List.length_take] at hj; omega
  obtain ⟨b', off', e, hlt, ho⟩ := h j hj'
  exact ⟨b', off', e, hlt, by rw [List.getElem_take]; exact ho⟩
theorem make_capN (n : Nat) (N : Int) (hN : N = (n : Int)) (hn : n ≤ 1048576) (w : World) : (Instr.makeSlice 41 (.int .i64 0) (.int .i64 N)).run Try.prog w = .ok (.slice (some ⟨w.heap.size, 0, none⟩) 0 n) (w.alloc (.cells (flatG NodG.cells (List.replicate n NodG.none0)).toArray 79)) := by
  subst hN
  obtain ⟨i, hi, hz⟩ := Option.map_eq_some_iff.1 infoNode
  simp only [Prod.mk.injEq] at hz
  obtain ⟨hz, hs, hb⟩ := hz
  have h := run_make (P := Try.prog) w 41 79 i _ Try.underlying41 hi hz .i64 .i64 0 n (by omega) (by omega) (by rw [hb]; omega) (by omega)
  simp only [Int.toNat_natCast, hs] at h
  rw [← made_cells nod_len (by omega) NodG.none0 n]
  exact h
def aheadFnN : Value := .func (.func 58) #[] #[]
theorem news1N (x : World) (o : NodG) (T : TypeId) : ∀ j u, o.cells[j]? = some u → (x.alloc (.cells #[.int .i64 o.id, .int .i64 o.parent, .string o.name, .slice o.pao o.props.length o.pcap] T)).drew.cell? ((⟨x.heap.size, 0, none⟩ : Addr).add j) = some u := by
  intro j u hu
  rw [Addr.add_lit, Nat.zero_add]
  show (x.alloc (.cells #[.int .i64 o.id, .int .i64 o.parent, .string o.name, .slice o.pao o.props.length o.pcap] T)).cell? ⟨x.heap.size, j, none⟩ = some u
  rw [World.cell?_alloc_at _ _ _ _ rfl]
  simpa [NodG.cells] using hu
def sliceLenN : Value → Nat
  | .slice _ n _ => n
  | _ => 0
set_option maxRecDepth 100000 in
set_option maxHeartbeats 1000000 in
theorem mergedN_any (a b : List NodG) (ao bo : Option Addr) (ca cb : Nat) (w : World) (ha : a.length ≤ 400) (hb : b.length ≤ 400) (hca : a.length ≤ ca) (hcb : b.length ≤ cb) (hA : NCells w ao a) (hB : NCells w bo b) :
    Calls Try.prog 124 #[.slice ao a.length ca, .slice bo b.length cb, aheadFnN] w fun e w' => ∃ v, e = .returned v ∧ OwnN w' w.heap.size v (mrgN a b) ∧ Below w.heap.size w w' := by
  unfold aheadFnN
  have hmk := fun W => make_capN (a.length + b.length) ((a.length : Int) + (b.length : Int)) (by omega) (by omega) W
  have HA : Hid (NCells w ao a) := ⟨hA⟩
  have HB : Hid (NCells w bo b) := ⟨hB⟩
  clear hA hB
  have HCa : Hid (a.length ≤ ca) := ⟨hca⟩
  have HCb : Hid (b.length ≤ cb) := ⟨hcb⟩
  clear hca hcb
  have hown0 := World.ownsRow_made (base := w.heap.size) (e := 79) (size := 4) w (flatG NodG.cells (List.replicate (a.length + b.length) NodG.none0)).toArray (a.length + b.length) (Nat.le_refl _) (by unfold maxLen; omega) (by simp [flatG_len nod_len])
  have HO0 : Hid (OwnN (w.alloc (.cells (flatG NodG.cells (List.replicate (a.length + b.length) NodG.none0)).toArray 79)) w.heap.size (.slice (some ⟨w.heap.size, 0, none⟩) 0 (a.length + b.length)) []) := ⟨hown0, by simp⟩
  clear hown0
  obtain ⟨i0, hi, hzz⟩ := Option.map_eq_some_iff.1 infoNode
  simp only [Prod.mk.injEq] at hzz
  obtain ⟨hz0, hz1, hz2⟩ := hzz
  go_enter Try.func124, Try.ntmps124
  go_wp2
  clear hmk
  go_loopw [0, 1, 7] (fun va vb vo wr => ∃ p q out pao qbo pc qc, va = .slice pao (List.length p) pc ∧ vb = .slice qbo (List.length q) qc ∧ List.length p ≤ pc ∧ List.length q ≤ qc ∧ NCells w pao p ∧ NCells w qbo q ∧ OwnN wr w.heap.size vo out ∧ out ++ mrgN p q = mrgN a b ∧ List.length out + p.length + q.length = a.length + b.length ∧ Below w.heap.size w wr) (fun va vb _ _ => sliceLenN va + sliceLenN vb)
  case atStart => exact ⟨a, b, [], ao, bo, ca, cb, rfl, rfl, HCa.out, HCb.out, HA.out, HB.out, HO0.out, rfl, by simp, (Below.refl _ _).alloc (Nat.le_refl _) _⟩
  case round =>
    obtain ⟨p, q, out, pao, qbo, pc, qc, rfl, rfl, hpc, hqc, hP, hQ, hO, hM, hlen, hbw⟩ := hrel
    have HP : Hid (NCells w pao p) := ⟨hP⟩
    have HQ : Hid (NCells w qbo q) := ⟨hQ⟩
    have HO : Hid (OwnN wr w.heap.size u7 out) := ⟨hO⟩
    have HM : Hid (out ++ mrgN p q = mrgN a b) := ⟨hM⟩
    clear hP hQ hO hM
    by_cases hp : 0 < p.length
    · by_cases hq : 0 < q.length
      · obtain ⟨x, p, rfl⟩ : ∃ x p', p = x :: p' := by cases p with | nil => simp at hp | cons x p' => exact ⟨x, p', rfl⟩
        obtain ⟨y, q, rfl⟩ : ∃ y q', q = y :: q' := by cases q with | nil => simp at hq | cons y q' => exact ⟨y, q', rfl⟩
        obtain ⟨g1, o1, rfl, hlt1, ho1⟩ := HP.out 0 (by simp)
        obtain ⟨g2, o2, rfl, hlt2, ho2⟩ := HQ.out 0 (by simp)
        have hx0 : NodAt w g1 o1 x := by simpa using ho1
        have hy0 : NodAt w g2 o2 y := by simpa using ho2
        have HX : Hid (NodAt w g1 o1 x) := ⟨hx0⟩
        have HY : Hid (NodAt w g2 o2 y) := ⟨hy0⟩
        obtain ⟨c0, c1, c2, c3⟩ := hx0.block (hbw.block g1 hlt1)
        obtain ⟨d0, d1, d2, d3⟩ := hy0.block (hbw.block g2 hlt2)
        have hcall := fun W => nodAhead_any y x W
        unfold NodG.agg at hcall
        simp only [show (decide (y.id < x.id)) = ltN y x from rfl] at hcall
        simp only [List.length_cons] at hlen hpc hqc hp hq ⊢
        clear hx0 hy0 ho1 ho2
        obtain ⟨g, cap, rfl, hg1, hg2, hcap, hcm⟩ := HO.out.at
        go_wp2
        go_region_held3 (fun w' => w'.cell? ⟨g1, o1, none⟩ = some (.int .i64 x.id) ∧ w'.cell? ⟨g1, o1 + 1, none⟩ = some (.int .i64 x.parent) ∧ w'.cell? ⟨g1, o1 + 2, none⟩ = some (.string x.name) ∧ w'.cell? ⟨g1, o1 + 3, none⟩ = some (.slice x.pao x.props.length x.pcap) ∧ w'.cell? ⟨g2, o2, none⟩ = some (.int .i64 y.id) ∧ w'.cell? ⟨g2, o2 + 1, none⟩ = some (.int .i64 y.parent) ∧ w'.cell? ⟨g2, o2 + 2, none⟩ = some (.string y.name) ∧ w'.cell? ⟨g2, o2 + 3, none⟩ = some (.slice y.pao y.props.length y.pcap)) (exact ⟨c0, c1, c2, c3, d0, d1, d2, d3⟩) (first | (go_at_call 58; refine (hcall _).mono ?_; rintro e x1 ⟨rfl, hx1⟩; have hX : Below w.heap.size w x1 := hbw.drew.trans (hx1.mono hbw.size); obtain ⟨c0, c1, c2, c3⟩ := HX.out.block (hX.block g1 hlt1); obtain ⟨d0, d1, d2, d3⟩ := HY.out.block (hX.block g2 hlt2)))
        clear hcall c0 c1 c2 c3 d0 d1 d2 d3
        have HO1 : Hid (OwnN x1 w.heap.size (.slice (some ⟨g, 0, none⟩) out.length cap) out) := ⟨HO.out.below ((Below.refl _ _).drew.trans (hx1.mono (by simp)))⟩
        cases ha : ltN y x
        · go_wp2
          have hsl := fun W => slice_fromN W g1 o1 (p.length + 1) pc 1 1 rfl (by omega)
          have hXs := hX.size
          go_region_held3 (fun w' => w'.cell? ⟨g1, o1, none⟩ = some (.int .i64 x.id) ∧ w'.cell? ⟨g1, o1 + 1, none⟩ = some (.int .i64 x.parent) ∧ w'.cell? ⟨g1, o1 + 2, none⟩ = some (.string x.name) ∧ w'.cell? ⟨g1, o1 + 3, none⟩ = some (.slice x.pao x.props.length x.pcap)) (first | exact HX.out.block (hX.drew.block g1 hlt1) | exact HX.out.block ((hX.alloc hXs _).drew.block g1 hlt1) | exact HX.out.block (hYY.block g1 hlt1)) ((refine step_append_lies _ (by rfl) _ _ _ (by rfl) w.heap.size 79 i0 _ 4 56 Try.underlying41 hi hz0 hz1 hz2 rfl (by decide) _ out.length (flatG NodG.cells out) (by rfl) (HO1.out.1.alloc _).drewn ⟨x1.heap.size, 0, none⟩ 1 1 x.cells (by rfl) rfl (news1N x1 _ _) (one1N _) (by omega) (by unfold maxLen; omega) (by omega) (by simp; omega) (x1.heap.size + 1) (by simp) ?_; intro gn cn y1 hown hgrow hatn hltn; have hYY : Below w.heap.size w y1 := (hX.alloc hXs _).drew.grown hgrow (by simp; omega) (fun j hj => by simp [Value.ownBlock] at hj; omega)))
          have HO2 : Hid (OwnN y1 w.heap.size (.slice (some ⟨gn, 0, none⟩) (out.length + 1) cn) (out ++ [x])) := ⟨by
            have e1 : (out ++ [x]).length = out.length + 1 := by simp
            have e2 : flatG NodG.cells (out ++ [x]) = flatG NodG.cells out ++ x.cells := by rw [flatG_app]; simp [flatG]
            rw [e1, e2]; exact hown, by simp⟩
          have HP2 : Hid (NCells w (some ⟨g1, fromN o1 pc 1, none⟩) p) := ⟨by have h2 := HP.out.from (cap := pc) 1 (by simp; omega); simpa using h2⟩
          have HM2 : Hid ((out ++ [x]) ++ mrgN p (y :: q) = mrgN a b) := ⟨by rw [← HM.out, mrgN_left p q ha]; simp⟩
          clear hown hgrow hatn
          go_wp2
          go_roundw
          case rel => exact ⟨p, y :: q, out ++ [x], _, _, pc - 1, qc, rfl, rfl, by omega, by simp; omega, HP2.out, HQ.out, HO2.out, HM2.out, by simp; omega, hYY⟩
          case measure => simp [sliceLenN]
        · go_wp2
          have hsl := fun W => slice_fromN W g2 o2 (q.length + 1) qc 1 1 rfl (by omega)
          have hXs := hX.size
          go_region_held3 (fun w' => w'.cell? ⟨g2, o2, none⟩ = some (.int .i64 y.id) ∧ w'.cell? ⟨g2, o2 + 1, none⟩ = some (.int .i64 y.parent) ∧ w'.cell? ⟨g2, o2 + 2, none⟩ = some (.string y.name) ∧ w'.cell? ⟨g2, o2 + 3, none⟩ = some (.slice y.pao y.props.length y.pcap)) (first | exact HY.out.block (hX.drew.block g2 hlt2) | exact HY.out.block ((hX.alloc hXs _).drew.block g2 hlt2) | exact HY.out.block (hYY.block g2 hlt2)) ((refine step_append_lies _ (by rfl) _ _ _ (by rfl) w.heap.size 79 i0 _ 4 56 Try.underlying41 hi hz0 hz1 hz2 rfl (by decide) _ out.length (flatG NodG.cells out) (by rfl) (HO1.out.1.alloc _).drewn ⟨x1.heap.size, 0, none⟩ 1 1 y.cells (by rfl) rfl (news1N x1 _ _) (one1N _) (by omega) (by unfold maxLen; omega) (by omega) (by simp; omega) (x1.heap.size + 1) (by simp) ?_; intro gn cn y1 hown hgrow hatn hltn; have hYY : Below w.heap.size w y1 := (hX.alloc hXs _).drew.grown hgrow (by simp; omega) (fun j hj => by simp [Value.ownBlock] at hj; omega)))
          have HO2 : Hid (OwnN y1 w.heap.size (.slice (some ⟨gn, 0, none⟩) (out.length + 1) cn) (out ++ [y])) := ⟨by
            have e1 : (out ++ [y]).length = out.length + 1 := by simp
            have e2 : flatG NodG.cells (out ++ [y]) = flatG NodG.cells out ++ y.cells := by rw [flatG_app]; simp [flatG]
            rw [e1, e2]; exact hown, by simp⟩
          have HQ2 : Hid (NCells w (some ⟨g2, fromN o2 qc 1, none⟩) q) := ⟨by have h2 := HQ.out.from (cap := qc) 1 (by simp; omega); simpa using h2⟩
          have HM2 : Hid ((out ++ [y]) ++ mrgN (x :: p) q = mrgN a b) := ⟨by rw [← HM.out, mrgN_right p q ha]; simp⟩
          clear hown hgrow hatn
          go_wp2
          go_roundw
          case rel => exact ⟨x :: p, q, out ++ [y], _, _, pc, qc - 1, rfl, rfl, by simp; omega, by omega, HP.out, HQ2.out, HO2.out, HM2.out, by simp; omega, hYY⟩
          case measure => simp [sliceLenN]
      · obtain ⟨g, cap, rfl, hg1, hg2, hcap, hcm⟩ := HO.out.at
        have HE : Hid ((out ++ p) ++ q = mrgN a b) := ⟨by rw [← HM.out, show q = [] from List.eq_nil_of_length_eq_zero (by omega), mrgN_nil_right]; simp⟩
        have hbs := hbw.size
        go_wp2_with (at_builtin; refine wpList_append_N rfl _ _ rfl w.heap.size _ out rfl HO.out.1 pao p pc rfl (HP.out.stays hbw) (by omega) hbs ?_)
        intro v1 w1 hown1 hgr1 hne1
        have hB1 : Below w.heap.size w w1 := hbw.grown hgr1 hbs (fun j hj => (HO.out.1.lt j hj).1)
        have HO1 : Hid (OwnN w1 w.heap.size v1 (out ++ p)) := ⟨by rw [List.length_append]; exact hown1, hne1⟩
        have hB1s := hB1.size
        clear hown1 hgr1 hne1
        go_wp2_with (at_builtin; refine wpList_append_N rfl _ _ rfl w.heap.size _ (out ++ p) rfl HO1.out.1 qbo q qc rfl (HQ.out.stays hB1) (by simp; omega) hB1s ?_)
        intro v2 w2 hown2 hgr2 hne2
        have hB2 : Below w.heap.size w w2 := hB1.grown hgr2 hB1s (fun j hj => (HO1.out.1.lt j hj).1)
        have HF : Hid (OwnN w2 w.heap.size v2 (mrgN a b)) := ⟨by rw [← HE.out]; simpa using hown2, fun hh => HO1.out.2 (by have := hne2.1 hh; first | exact this | exact this.1)⟩
        clear hown2 hgr2 hne2
        go_wp2
        go_ret
        exact ⟨v2, rfl, HF.out, hB2⟩
    · obtain ⟨g, cap, rfl, hg1, hg2, hcap, hcm⟩ := HO.out.at
      have HE : Hid ((out ++ p) ++ q = mrgN a b) := ⟨by rw [← HM.out, show p = [] from List.eq_nil_of_length_eq_zero (by omega), mrgN_nil_left]; simp⟩
      have hbs := hbw.size
      go_wp2_with (at_builtin; refine wpList_append_N rfl _ _ rfl w.heap.size _ out rfl HO.out.1 pao p pc rfl (HP.out.stays hbw) (by omega) hbs ?_)
      intro v1 w1 hown1 hgr1 hne1
      have hB1 : Below w.heap.size w w1 := hbw.grown hgr1 hbs (fun j hj => (HO.out.1.lt j hj).1)
      have HO1 : Hid (OwnN w1 w.heap.size v1 (out ++ p)) := ⟨by rw [List.length_append]; exact hown1, hne1⟩
      have hB1s := hB1.size
      clear hown1 hgr1 hne1
      go_wp2_with (at_builtin; refine wpList_append_N rfl _ _ rfl w.heap.size _ (out ++ p) rfl HO1.out.1 qbo q qc rfl (HQ.out.stays hB1) (by simp; omega) hB1s ?_)
      intro v2 w2 hown2 hgr2 hne2
      have hB2 : Below w.heap.size w w2 := hB1.grown hgr2 hB1s (fun j hj => (HO1.out.1.lt j hj).1)
      have HF : Hid (OwnN w2 w.heap.size v2 (mrgN a b)) := ⟨by rw [← HE.out]; simpa using hown2, fun hh => HO1.out.2 (by have := hne2.1 hh; first | exact this | exact this.1)⟩
      clear hown2 hgr2 hne2
      go_wp2
      go_ret
      exact ⟨v2, rfl, HF.out, hB2⟩
end Go.Proofs.Ytcpgkalafkhlgae.OpR
namespace Go.Proofs.Ytcpgkalafkhlgae.OpR
open Go.ChangeShapes Go.WideShapes Go.ChangeAt Go.RowKit
set_option linter.unusedVariables false

def ltP (a b : PropV) : Bool := keyLt a.key b.key
def leP (a b : PropV) : Bool := !ltP b a
def mrgP (a b : List PropV) : List PropV := List.merge a b leP
theorem mrgP_nil_left (b : List PropV) : mrgP [] b = b := by simp [mrgP]
theorem mrgP_nil_right (a : List PropV) : mrgP a [] = a := by simp [mrgP]
theorem mrgP_right {x y : PropV} (a b : List PropV) (h : ltP y x = true) : mrgP (x :: a) (y :: b) = y :: mrgP (x :: a) b := by
  unfold mrgP; rw [List.cons_merge_cons]; simp [leP, h]
theorem mrgP_left {x y : PropV} (a b : List PropV) (h : ltP y x = false) : mrgP (x :: a) (y :: b) = x :: mrgP a (y :: b) := by
  unfold mrgP; rw [List.cons_merge_cons]; simp [leP, h]
theorem mrgP_perm (a b : List PropV) : (mrgP a b).Perm (a ++ b) := List.merge_perm_append leP
theorem mrgP_len (a b : List PropV) : (mrgP a b).length = a.length + b.length := by rw [(mrgP_perm a b).length_eq, List.length_append]

theorem PropsAt.at0P {w : World} {b off : Nat} {l : List PropV} (h : PropsAt w (some ⟨b, off, none⟩) l) {k : Nat} (hk : k < l.length) : PropAt w b (off + k * 2) l[k] := by
  obtain ⟨b', off', e, _, ho⟩ := h k hk
  cases e
  exact ho
theorem PropsAt.news {w : World} {ad : Addr} {l : List PropV} (h : PropsAt w (some ad) l) : ∀ j u, (flatG PropV.cells l)[j]? = some u → w.cell? (ad.add j) = some u := by
  intro j u hu
  have hj : j < l.length * 2 := by rw [← flatG_len prop_len]; exact (List.getElem?_eq_some_iff.1 hu).1
  obtain ⟨k, f, rfl, hf⟩ : ∃ k f, j = k * 2 + f ∧ f < 2 := ⟨j / 2, j % 2, by omega, by omega⟩
  have hk : k < l.length := by omega
  rw [flatG_get prop_len l k f hk hf] at hu
  obtain ⟨b', off', e, _, c0, c1⟩ := h k hk
  cases e
  rw [Addr.add_lit]
  match f, hf with
  | 0, _ => exact c0.trans hu
  | 1, _ => exact c1.trans hu
theorem PropsAt.nil_of {w : World} {l : List PropV} (h : PropsAt w none l) : l = [] := by
  cases l with
  | nil => rfl
  | cons o r => obtain ⟨b, off, e, _⟩ := h 0 (by simp); cases e
theorem oneP : ∀ (l : List PropV), ∀ u ∈ flatG PropV.cells l, u.oneCell' = true := by
  intro l u hu
  obtain ⟨o, _, ho⟩ := List.mem_flatMap.1 hu
  simp only [PropV.cells, List.mem_cons, List.not_mem_nil, or_false] at ho
  rcases ho with rfl | rfl <;> rfl
theorem one1P (o : PropV) : ∀ u ∈ o.cells, u.oneCell' = true := fun u hu => oneP [o] u (by simpa [flatG] using hu)
/-- A row that the call owns, at a place. -/
def OwnP (w : World) (base : Nat) (v : Value) (l : List PropV) : Prop := w.ownsRow base 118 2 v l.length (flatG PropV.cells l) ∧ v ≠ .slice none 0 0
theorem OwnP.at {w : World} {base : Nat} {v : Value} {l : List PropV} (h : OwnP w base v l) : ∃ g cap, v = .slice (some ⟨g, 0, none⟩) l.length cap ∧ base ≤ g ∧ g < w.heap.size ∧ l.length ≤ cap ∧ cap ≤ maxLen := by
  rcases h.1.2 with ⟨e, _⟩ | ⟨g, cap, cur, rfl, hb, hg, hl, hm, hs, ht⟩
  · exact absurd e h.2
  · exact ⟨g, cap, rfl, hb, (Array.getElem?_eq_some_iff.1 hg).1, hl, hm⟩
theorem OwnP.below {w w' : World} {base : Nat} {v : Value} {l : List PropV} (h : OwnP w base v l) (hb : Below w.heap.size w w') : OwnP w' base v l :=
  ⟨h.1.kept (row := none) ⟨hb.os, hb.tape, hb.output, hb.size, fun k hk _ => hb.block k hk⟩ (by cases hv : v.ownBlock <;> simp), h.2⟩
theorem owns_cellsP {w : World} {base : Nat} {ao : Option Addr} {cap : Nat} {l : List PropV} (h : w.ownsRow base 118 2 (.slice ao l.length cap) l.length (flatG PropV.cells l)) : PropsAt w ao l := by
  rcases h.2 with ⟨e, hn⟩ | ⟨g, cap', cur, e, hb, hg, h1, h2, h3, h4⟩
  · rw [List.eq_nil_of_length_eq_zero hn]
    exact fun j hj => absurd hj (by simp)
  · simp only [Value.slice.injEq] at e
    obtain ⟨rfl, _, _⟩ := e
    intro j hj
    refine ⟨g, 0, rfl, (Array.getElem?_eq_some_iff.1 hg).1, ?_⟩
    have hc := fun f (hf : f < 2) (u : Value) (hu : l[j].cells[f]? = some u) => h.cells rfl (j * 2 + f) u ((flatG_get prop_len l j f hj hf).trans hu)
    simp only [Addr.add_lit] at hc
    exact ⟨hc 0 (by omega) _ rfl, hc 1 (by omega) _ rfl⟩
theorem owns_atP {w : World} {base : Nat} {v : Value} {l : List PropV} (h : w.ownsRow base 118 2 v l.length (flatG PropV.cells l)) : ∃ ao c, v = .slice ao l.length c ∧ l.length ≤ c ∧ PropsAt w ao l := by
  have h' := h
  rcases h.2 with ⟨e, hn⟩ | ⟨g, cap', cur, e, hb, hg, h1, h2, h3, h4⟩
  · have hl : l = [] := List.eq_nil_of_length_eq_zero hn
    subst hl
    exact ⟨none, 0, e, Nat.le_refl _, fun j hj => absurd hj (by simp)⟩
  · rw [e] at h'
    exact ⟨_, cap', e, h1, owns_cellsP h'⟩
/-- Elements appended to a row that the call owns: whatever slice they lie in, nil too. -/
theorem wpList_append_P {ops : Array Oper} {rest : List Oper} {o : Oper} {a : Act} {w : World} {Q : Exit → Act → World → Prop} (hgd : o.guard = none) (s x : Operand)
    (ho : o.op = .call { callee := .builtin .append, args := #[s, x], argTypes := #[77, 77] })
    (base : Nat) (v : Value) (out : List PropV) (hs : a.eval s = v) (hown : w.ownsRow base 118 2 v out.length (flatG PropV.cells out))
    (ao : Option Addr) (m : List PropV) (c : Nat) (hx : a.eval x = .slice ao m.length c) (hA : PropsAt w ao m)
    (hlen : out.length + m.length ≤ 2200000) (hbase : base ≤ w.heap.size)
    (h : ∀ v' w', w'.ownsRow base 118 2 v' (out ++ m).length (flatG PropV.cells (out ++ m)) → w.grownBy w' v.ownBlock → (v' = .slice none 0 0 ↔ v = .slice none 0 0 ∧ m.length = 0) → wpList Try.prog ops Q rest (a.put o.dst v') w') : wpList Try.prog ops Q (o :: rest) a w := by
  obtain ⟨i0, hi, hzz⟩ := Option.map_eq_some_iff.1 infoProp
  simp only [Prod.mk.injEq] at hzz
  obtain ⟨hz0, hz1, hz2⟩ := hzz
  have hm : maxLen = 9223372036854775807 := rfl
  cases ao with
  | some ad =>
    refine wpList_append_own _ hgd s x 77 ho base 118 i0 _ 2 32 Try.underlying77 hi hz0 hz1 hz2 rfl (by decide) v out.length (flatG PropV.cells out) hs hown ad m.length c (flatG PropV.cells m) hx (flatG_len prop_len m) hA.news (oneP m) (by omega) (by omega) hbase (fun v' w' h1 h2 h3 => h v' w' ?_ h2 h3)
    rw [List.length_append, flatG_app]; exact h1
  | none =>
    obtain rfl := hA.nil_of
    have hrun : (Builtin.append_ #[77, 77] o.type #[v, .slice none 0 c]).run Try.prog w = .ok v w := by
      rcases hown.2 with ⟨rfl, _⟩ | ⟨g, cap, cur, rfl, _, _, hnc, _⟩
      · simp [Builtin.append_, run_underlying Try.underlying77, sizeOf, typeInfo, hi, Builtin.lenOf, Builtin.firstCells]
      · simp [Builtin.append_, run_underlying Try.underlying77, sizeOf, typeInfo, hi, Builtin.lenOf, Builtin.firstCells, loadCells, storeCells, hnc]
    refine wpList_plain hgd fun K hK => ?_
    have hx' : a.eval x = .slice none 0 c := hx
    unfold Oper.wp execOp
    simp only [ho, resolve, invoke, builtin, Sem.run_bind, Sem.run_pure, Result.andThen_ok, List.map_toArray, List.map_cons, List.map_nil, hs, hx', hrun]
    refine hK _ _ (h v w ?_ ⟨rfl, rfl, rfl, Nat.le_refl _, fun _ _ _ => rfl⟩ (by simp))
    rw [List.append_nil]; exact hown
/-- Where a slice from k on begins. -/
def fromP (o cap k : Nat) : Nat := if cap = k then o else o + k * 2
theorem slice_fromP (W : World) (g o len cap k : Nat) (K : Int) (hK : K = (k : Int)) (h : k ≤ len) :
    (Instr.slice 77 (.slice (some ⟨g, o, none⟩) len cap) (some (.int .i64 K)) none none).run Try.prog W = .ok (.slice (some ⟨g, fromP o cap k, none⟩) (len - k) (cap - k)) W := by
  subst hK
  have ht : Try.prog.underlying 77 = some (.slice (Try.prog.elem 77)) := by kernel_rfl
  have hs : ∀ w, (sizeOf (Try.prog.elem 77)).run Try.prog w = .ok 2 w := fun _ => by kernel_rfl
  rw [run_slice_l W 77 (some ⟨g, o, none⟩) len cap ht .i64 (k : Int) (by omega) (by omega), hs]
  simp only [Result.andThen, sliced, Int.toNat_natCast, Option.map_some, add_plain]
  unfold fromP
  by_cases e : cap = k
  · simp [e]
  · simp [e]
theorem slice_cutP (W : World) (g o len cap k : Nat) (K : Int) (hK : K = (k : Int)) (h : k ≤ cap) :
    (Instr.slice 77 (.slice (some ⟨g, o, none⟩) len cap) none (some (.int .i64 K)) (some (.int .i64 K))).run Try.prog W = .ok (.slice (some ⟨g, o, none⟩) k k) W := by
  subst hK
  have ht : Try.prog.underlying 77 = some (.slice (Try.prog.elem 77)) := by kernel_rfl
  have hs : ∀ w, (sizeOf (Try.prog.elem 77)).run Try.prog w = .ok 2 w := fun _ => by kernel_rfl
  rw [run_slice_hm W 77 (some ⟨g, o, none⟩) len cap ht .i64 .i64 (k : Int) (k : Int) (by omega) (by omega) (by omega), hs]
  simp [Result.andThen, sliced, Addr.add]
theorem PropsAt.from {w : World} {g o : Nat} {l : List PropV} (h : PropsAt w (some ⟨g, o, none⟩) l) {cap : Nat} (k : Nat) (hc : l.length ≤ cap) : PropsAt w (some ⟨g, fromP o cap k, none⟩) (l.drop k) := fun j hj => by
  have hj' : k + j < l.length := by rw [List.length_drop] at hj; omega
  have ho := h.at0P hj'
  obtain ⟨_, _, e, hlt, _⟩ := h (k + j) hj'
  cases e
  refine ⟨g, fromP o cap k, rfl, hlt, ?_⟩
  rw [List.getElem_drop]
  unfold fromP
  rw [if_neg (by omega), Nat.add_assoc, ← Nat.add_mul]
  exact ho
theorem PropsAt.take {w : World} {b off : Nat} {l : List PropV} (h : PropsAt w (some ⟨b, off, none⟩) l) (k : Nat) : PropsAt w (some ⟨b, off, none⟩) (l.take k) := fun j hj => by
  have hj' : j < l.length := by rw [List.length_take] at hj; omega
  obtain ⟨b', off', e, hlt, ho⟩ := h j hj'
  exact ⟨b', off', e, hlt, by rw [List.getElem_take]; exact ho⟩
theorem make_capP (n : Nat) (N : Int) (hN : N = (n : Int)) (hn : n ≤ 1048576) (w : World) : (Instr.makeSlice 77 (.int .i64 0) (.int .i64 N)).run Try.prog w = .ok (.slice (some ⟨w.heap.size, 0, none⟩) 0 n) (w.alloc (.cells (flatG PropV.cells (List.replicate n PropV.zero)).toArray 118)) := by
  subst hN
  obtain ⟨i, hi, hz⟩ := Option.map_eq_some_iff.1 infoProp
  simp only [Prod.mk.injEq] at hz
  obtain ⟨hz, hs, hb⟩ := hz
  have h := run_make (P := Try.prog) w 77 118 i _ Try.underlying77 hi hz .i64 .i64 0 n (by omega) (by omega) (by rw [hb]; omega) (by omega)
  simp only [Int.toNat_natCast, hs] at h
  rw [← made_cells prop_len (by omega) PropV.zero n]
  exact h
def aheadFnP : Value := .func (.func 118) #[] #[]
theorem news1P (x : World) (o : PropV) (T : TypeId) : ∀ j u, o.cells[j]? = some u → (x.alloc (.cells #[.string o.key, .string o.value] T)).drew.cell? ((⟨x.heap.size, 0, none⟩ : Addr).add j) = some u := by
  intro j u hu
  rw [Addr.add_lit, Nat.zero_add]
  show (x.alloc (.cells #[.string o.key, .string o.value] T)).cell? ⟨x.heap.size, j, none⟩ = some u
  rw [World.cell?_alloc_at _ _ _ _ rfl]
  simpa [PropV.cells] using hu
def sliceLenP : Value → Nat
  | .slice _ n _ => n
  | _ => 0
set_option maxRecDepth 100000 in
set_option maxHeartbeats 1000000 in
theorem mergedP_any (a b : List PropV) (ao bo : Option Addr) (ca cb : Nat) (w : World) (ha : a.length ≤ 400) (hb : b.length ≤ 400) (hca : a.length ≤ ca) (hcb : b.length ≤ cb) (hA : PropsAt w ao a) (hB : PropsAt w bo b) :
    Calls Try.prog 121 #[.slice ao a.length ca, .slice bo b.length cb, aheadFnP] w fun e w' => ∃ v, e = .returned v ∧ OwnP w' w.heap.size v (mrgP a b) ∧ Below w.heap.size w w' := by
  unfold aheadFnP
  have hmk := fun W => make_capP (a.length + b.length) ((a.length : Int) + (b.length : Int)) (by omega) (by omega) W
  have HA : Hid (PropsAt w ao a) := ⟨hA⟩
  have HB : Hid (PropsAt w bo b) := ⟨hB⟩
  clear hA hB
  have HCa : Hid (a.length ≤ ca) := ⟨hca⟩
  have HCb : Hid (b.length ≤ cb) := ⟨hcb⟩
  clear hca hcb
  have hown0 := World.ownsRow_made (base := w.heap.size) (e := 118) (size := 2) w (flatG PropV.cells (List.replicate (a.length + b.length) PropV.zero)).toArray (a.length + b.length) (Nat.le_refl _) (by unfold maxLen; omega) (by simp [flatG_len prop_len])
  have HO0 : Hid (OwnP (w.alloc (.cells (flatG PropV.cells (List.replicate (a.length + b.length) PropV.zero)).toArray 118)) w.heap.size (.slice (some ⟨w.heap.size, 0, none⟩) 0 (a.length + b.length)) []) := ⟨hown0, by simp⟩
  clear hown0
  obtain ⟨i0, hi, hzz⟩ := Option.map_eq_some_iff.1 infoProp
  simp only [Prod.mk.injEq] at hzz
  obtain ⟨hz0, hz1, hz2⟩ := hzz
  go_enter Try.func121, Try.ntmps121
  go_wp2
  clear hmk
  go_loopw [0, 1, 7] (fun va vb vo wr => ∃ p q out pao qbo pc qc, va = .slice pao (List.length p) pc ∧ vb = .slice qbo (List.length q) qc ∧ List.length p ≤ pc ∧ List.length q ≤ qc ∧ PropsAt w pao p ∧ PropsAt w qbo q ∧ OwnP wr w.heap.size vo out ∧ out ++ mrgP p q = mrgP a b ∧ List.length out + p.length + q.length = a.length + b.length ∧ Below w.heap.size w wr) (fun va vb _ _ => sliceLenP va + sliceLenP vb)
  case atStart => exact ⟨a, b, [], ao, bo, ca, cb, rfl, rfl, HCa.out, HCb.out, HA.out, HB.out, HO0.out, rfl, by simp, (Below.refl _ _).alloc (Nat.le_refl _) _⟩
  case round =>
    obtain ⟨p, q, out, pao, qbo, pc, qc, rfl, rfl, hpc, hqc, hP, hQ, hO, hM, hlen, hbw⟩ := hrel
    have HP : Hid (PropsAt w pao p) := ⟨hP⟩
    have HQ : Hid (PropsAt w qbo q) := ⟨hQ⟩
    have HO : Hid (OwnP wr w.heap.size u7 out) := ⟨hO⟩
    have HM : Hid (out ++ mrgP p q = mrgP a b) := ⟨hM⟩
    clear hP hQ hO hM
    by_cases hp : 0 < p.length
    · by_cases hq : 0 < q.length
      · obtain ⟨x, p, rfl⟩ : ∃ x p', p = x :: p' := by cases p with | nil => simp at hp | cons x p' => exact ⟨x, p', rfl⟩
        obtain ⟨y, q, rfl⟩ : ∃ y q', q = y :: q' := by cases q with | nil => simp at hq | cons y q' => exact ⟨y, q', rfl⟩
        obtain ⟨g1, o1, rfl, hlt1, ho1⟩ := HP.out 0 (by simp)
        obtain ⟨g2, o2, rfl, hlt2, ho2⟩ := HQ.out 0 (by simp)
        have hx0 : PropAt w g1 o1 x := by simpa using ho1
        have hy0 : PropAt w g2 o2 y := by simpa using ho2
        have HX : Hid (PropAt w g1 o1 x) := ⟨hx0⟩
        have HY : Hid (PropAt w g2 o2 y) := ⟨hy0⟩
        obtain ⟨c0, c1⟩ := hx0.block (hbw.block g1 hlt1)
        obtain ⟨d0, d1⟩ := hy0.block (hbw.block g2 hlt2)
        have hcall := fun W => propAhead_any y x W
        unfold PropV.agg at hcall
        simp only [show (keyLt y.key x.key) = ltP y x from rfl] at hcall
        simp only [List.length_cons] at hlen hpc hqc hp hq ⊢
        clear hx0 hy0 ho1 ho2
        obtain ⟨g, cap, rfl, hg1, hg2, hcap, hcm⟩ := HO.out.at
        go_wp2
        go_region_held3 (fun w' => w'.cell? ⟨g1, o1, none⟩ = some (.string x.key) ∧ w'.cell? ⟨g1, o1 + 1, none⟩ = some (.string x.value) ∧ w'.cell? ⟨g2, o2, none⟩ = some (.string y.key) ∧ w'.cell? ⟨g2, o2 + 1, none⟩ = some (.string y.value)) (exact ⟨c0, c1, d0, d1⟩) (first | (go_at_call 118; refine (hcall _).mono ?_; rintro e x1 ⟨rfl, hx1⟩; have hX : Below w.heap.size w x1 := hbw.drew.trans (hx1.mono hbw.size); obtain ⟨c0, c1⟩ := HX.out.block (hX.block g1 hlt1); obtain ⟨d0, d1⟩ := HY.out.block (hX.block g2 hlt2)))
        clear hcall c0 c1 d0 d1
        have HO1 : Hid (OwnP x1 w.heap.size (.slice (some ⟨g, 0, none⟩) out.length cap) out) := ⟨HO.out.below ((Below.refl _ _).drew.trans (hx1.mono (by simp)))⟩
        cases ha : ltP y x
        · go_wp2
          have hsl := fun W => slice_fromP W g1 o1 (p.length + 1) pc 1 1 rfl (by omega)
          have hXs := hX.size
          go_region_held3 (fun w' => w'.cell? ⟨g1, o1, none⟩ = some (.string x.key) ∧ w'.cell? ⟨g1, o1 + 1, none⟩ = some (.string x.value)) (first | exact HX.out.block (hX.drew.block g1 hlt1) | exact HX.out.block ((hX.alloc hXs _).drew.block g1 hlt1) | exact HX.out.block (hYY.block g1 hlt1)) ((refine step_append_lies _ (by rfl) _ _ _ (by rfl) w.heap.size 118 i0 _ 2 32 Try.underlying77 hi hz0 hz1 hz2 rfl (by decide) _ out.length (flatG PropV.cells out) (by rfl) (HO1.out.1.alloc _).drewn ⟨x1.heap.size, 0, none⟩ 1 1 x.cells (by rfl) rfl (news1P x1 _ _) (one1P _) (by omega) (by unfold maxLen; omega) (by omega) (by simp; omega) (x1.heap.size + 1) (by simp) ?_; intro gn cn y1 hown hgrow hatn hltn; have hYY : Below w.heap.size w y1 := (hX.alloc hXs _).drew.grown hgrow (by simp; omega) (fun j hj => by simp [Value.ownBlock] at hj; omega)))
          have HO2 : Hid (OwnP y1 w.heap.size (.slice (some ⟨gn, 0, none⟩) (out.length + 1) cn) (out ++ [x])) := ⟨by
            have e1 : (out ++ [x]).length = out.length + 1 := by simp
            have e2 : flatG PropV.cells (out ++ [x]) = flatG PropV.cells out ++ x.cells := by rw [flatG_app]; simp [flatG]
            rw [e1, e2]; exact hown, by simp⟩
          have HP2 : Hid (PropsAt w (some ⟨g1, fromP o1 pc 1, none⟩) p) := ⟨by have h2 := HP.out.from (cap := pc) 1 (by simp; omega); simpa using h2⟩
          have HM2 : Hid ((out ++ [x]) ++ mrgP p (y :: q) = mrgP a b) := ⟨by rw [← HM.out, mrgP_left p q ha]; simp⟩
          clear hown hgrow hatn
          go_wp2
          go_roundw
          case rel => exact ⟨p, y :: q, out ++ [x], _, _, pc - 1, qc, rfl, rfl, by omega, by simp; omega, HP2.out, HQ.out, HO2.out, HM2.out, by simp; omega, hYY⟩
          case measure => simp [sliceLenP]
        · go_wp2
          have hsl := fun W => slice_fromP W g2 o2 (q.length + 1) qc 1 1 rfl (by omega)
          have hXs := hX.size
          go_region_held3 (fun w' => w'.cell? ⟨g2, o2, none⟩ = some (.string y.key) ∧ w'.cell? ⟨g2, o2 + 1, none⟩ = some (.string y.value)) (first | exact HY.out.block (hX.drew.block g2 hlt2) | exact HY.out.block ((hX.alloc hXs _).drew.block g2 hlt2) | exact HY.out.block (hYY.block g2 hlt2)) ((refine step_append_lies _ (by rfl) _ _ _ (by rfl) w.heap.size 118 i0 _ 2 32 Try.underlying77 hi hz0 hz1 hz2 rfl (by decide) _ out.length (flatG PropV.cells out) (by rfl) (HO1.out.1.alloc _).drewn ⟨x1.heap.size, 0, none⟩ 1 1 y.cells (by rfl) rfl (news1P x1 _ _) (one1P _) (by omega) (by unfold maxLen; omega) (by omega) (by simp; omega) (x1.heap.size + 1) (by simp) ?_; intro gn cn y1 hown hgrow hatn hltn; have hYY : Below w.heap.size w y1 := (hX.alloc hXs _).drew.grown hgrow (by simp; omega) (fun j hj => by simp [Value.ownBlock] at hj; omega)))
          have HO2 : Hid (OwnP y1 w.heap.size (.slice (some ⟨gn, 0, none⟩) (out.length + 1) cn) (out ++ [y])) := ⟨by
            have e1 : (out ++ [y]).length = out.length + 1 := by simp
            have e2 : flatG PropV.cells (out ++ [y]) = flatG PropV.cells out ++ y.cells := by rw [flatG_app]; simp [flatG]
            rw [e1, e2]; exact hown, by simp⟩
          have HQ2 : Hid (PropsAt w (some ⟨g2, fromP o2 qc 1, none⟩) q) := ⟨by have h2 := HQ.out.from (cap := qc) 1 (by simp; omega); simpa using h2⟩
          have HM2 : Hid ((out ++ [y]) ++ mrgP (x :: p) q = mrgP a b) := ⟨by rw [← HM.out, mrgP_right p q ha]; simp⟩
          clear hown hgrow hatn
          go_wp2
          go_roundw
          case rel => exact ⟨x :: p, q, out ++ [y], _, _, pc, qc - 1, rfl, rfl, by simp; omega, by omega, HP.out, HQ2.out, HO2.out, HM2.out, by simp; omega, hYY⟩
          case measure => simp [sliceLenP]
      · obtain ⟨g, cap, rfl, hg1, hg2, hcap, hcm⟩ := HO.out.at
        have HE : Hid ((out ++ p) ++ q = mrgP a b) := ⟨by rw [← HM.out, show q = [] from List.eq_nil_of_length_eq_zero (by omega), mrgP_nil_right]; simp⟩
        have hbs := hbw.size
        go_wp2_with (at_builtin; refine wpList_append_P rfl _ _ rfl w.heap.size _ out rfl HO.out.1 pao p pc rfl (HP.out.stays hbw) (by omega) hbs ?_)
        intro v1 w1 hown1 hgr1 hne1
        have hB1 : Below w.heap.size w w1 := hbw.grown hgr1 hbs (fun j hj => (HO.out.1.lt j hj).1)
        have HO1 : Hid (OwnP w1 w.heap.size v1 (out ++ p)) := ⟨by rw [List.length_append]; exact hown1, hne1⟩
        have hB1s := hB1.size
        clear hown1 hgr1 hne1
        go_wp2_with (at_builtin; refine wpList_append_P rfl _ _ rfl w.heap.size _ (out ++ p) rfl HO1.out.1 qbo q qc rfl (HQ.out.stays hB1) (by simp; omega) hB1s ?_)
        intro v2 w2 hown2 hgr2 hne2
        have hB2 : Below w.heap.size w w2 := hB1.grown hgr2 hB1s (fun j hj => (HO1.out.1.lt j hj).1)
        have HF : Hid (OwnP w2 w.heap.size v2 (mrgP a b)) := ⟨by rw [← HE.out]; simpa using hown2, fun hh => HO1.out.2 (by have := hne2.1 hh; first | exact this | exact this.1)⟩
        clear hown2 hgr2 hne2
        go_wp2
        go_ret
        exact ⟨v2, rfl, HF.out, hB2⟩
    · obtain ⟨g, cap, rfl, hg1, hg2, hcap, hcm⟩ := HO.out.at
      have HE : Hid ((out ++ p) ++ q = mrgP a b) := ⟨by rw [← HM.out, show p = [] from List.eq_nil_of_length_eq_zero (by omega), mrgP_nil_left]; simp⟩
      have hbs := hbw.size
      go_wp2_with (at_builtin; refine wpList_append_P rfl _ _ rfl w.heap.size _ out rfl HO.out.1 pao p pc rfl (HP.out.stays hbw) (by omega) hbs ?_)
      intro v1 w1 hown1 hgr1 hne1
      have hB1 : Below w.heap.size w w1 := hbw.grown hgr1 hbs (fun j hj => (HO.out.1.lt j hj).1)
      have HO1 : Hid (OwnP w1 w.heap.size v1 (out ++ p)) := ⟨by rw [List.length_append]; exact hown1, hne1⟩
      have hB1s := hB1.size
      clear hown1 hgr1 hne1
      go_wp2_with (at_builtin; refine wpList_append_P rfl _ _ rfl w.heap.size _ (out ++ p) rfl HO1.out.1 qbo q qc rfl (HQ.out.stays hB1) (by simp; omega) hB1s ?_)
      intro v2 w2 hown2 hgr2 hne2
      have hB2 : Below w.heap.size w w2 := hB1.grown hgr2 hB1s (fun j hj => (HO1.out.1.lt j hj).1)
      have HF : Hid (OwnP w2 w.heap.size v2 (mrgP a b)) := ⟨by rw [← HE.out]; simpa using hown2, fun hh => HO1.out.2 (by have := hne2.1 hh; first | exact this | exact this.1)⟩
      clear hown2 hgr2 hne2
      go_wp2
      go_ret
      exact ⟨v2, rfl, HF.out, hB2⟩
end Go.Proofs.Ytcpgkalafkhlgae.OpR
namespace Go.Proofs.Ytcpgkalafkhlgae.OpR
open Go.ChangeShapes Go.WideShapes Go.ChangeAt Go.RowKit
set_option linter.unusedVariables false

def OrdN (l : List NodG) : Prop := l.Pairwise (fun a b => leN a b = true)
theorem leN_iff (a b : NodG) : leN a b = true ↔ a.id ≤ b.id := by simp [leN, ltN]
theorem mrgN_ord {a b : List NodG} (ha : OrdN a) (hb : OrdN b) : OrdN (mrgN a b) :=
  List.pairwise_merge (fun a b c h1 h2 => by rw [leN_iff] at *; omega) (fun a b => by rw [Bool.or_eq_true, leN_iff, leN_iff]; omega) a b ha hb
theorem ordN_short {l : List NodG} (h : l.length < 2) : OrdN l := by
  match l, h with
  | [], _ => simp [OrdN]
  | [x], _ => simp [OrdN]

set_option maxRecDepth 100000 in
set_option maxHeartbeats 1000000 in
theorem sortedN_any : ∀ (n : Nat) (l : List NodG) (ao : Option Addr) (cap : Nat) (w : World), l.length ≤ n → l.length ≤ 400 → l.length ≤ cap → NCells w ao l →
    Calls Try.prog 104 #[.slice ao l.length cap, aheadFnN] w fun e w' => ∃ v s, e = .returned v ∧ s.Perm l ∧ OrdN s ∧ w'.ownsRow w.heap.size 79 4 v s.length (flatG NodG.cells s) ∧ Below w.heap.size w w' := by
  intro n
  induction n with
  | zero =>
    intro l ao cap w hn h400 hcap hA
    have HA : Hid (NCells w ao l) := ⟨hA⟩
    clear hA
    unfold aheadFnN
    go_enter Try.func104, Try.ntmps104
    go_wp2_with (at_builtin; refine wpList_append_N rfl _ _ rfl w.heap.size (.slice none 0 0) [] rfl (World.ownsRow_nil w _ _ _) ao l cap rfl HA.out (by simp; omega) (Nat.le_refl _) ?_)
    intro v1 w1 hown1 hgr1 hne1
    have hB1 : Below w.heap.size w w1 := (Below.refl _ _).grown hgr1 (Nat.le_refl _) (fun j hj => by simp [Value.ownBlock] at hj)
    have HF : Hid (w1.ownsRow w.heap.size 79 4 v1 l.length (flatG NodG.cells l)) := ⟨by simpa using hown1⟩
    clear hown1 hgr1 hne1
    go_wp2
    go_ret
    exact ⟨v1, l, rfl, List.Perm.refl _, ordN_short (by omega), HF.out, hB1⟩
  | succ n ih =>
    intro l ao cap w hn h400 hcap hA
    by_cases h2 : l.length < 2
    · have HA : Hid (NCells w ao l) := ⟨hA⟩
      clear hA ih
      unfold aheadFnN
      go_enter Try.func104, Try.ntmps104
      go_wp2_with (at_builtin; refine wpList_append_N rfl _ _ rfl w.heap.size (.slice none 0 0) [] rfl (World.ownsRow_nil w _ _ _) ao l cap rfl HA.out (by simp; omega) (Nat.le_refl _) ?_)
      intro v1 w1 hown1 hgr1 hne1
      have hB1 : Below w.heap.size w w1 := (Below.refl _ _).grown hgr1 (Nat.le_refl _) (fun j hj => by simp [Value.ownBlock] at hj)
      have HF : Hid (w1.ownsRow w.heap.size 79 4 v1 l.length (flatG NodG.cells l)) := ⟨by simpa using hown1⟩
      clear hown1 hgr1 hne1
      go_wp2
      go_ret
      exact ⟨v1, l, rfl, List.Perm.refl _, ordN_short h2, HF.out, hB1⟩
    · obtain ⟨g, o, rfl, hlt, _⟩ := hA 0 (by omega)
      have HA : Hid (NCells w (some ⟨g, o, none⟩) l) := ⟨hA⟩
      clear hA
      have e1 : (l.take (l.length / 2)).length = l.length / 2 := by rw [List.length_take]; omega
      have e2 : (l.drop (l.length / 2)).length = l.length - l.length / 2 := by rw [List.length_drop]
      have ih1 := fun W (hW : Below w.heap.size w W) => ih (l.take (l.length / 2)) (some ⟨g, o, none⟩) (l.length / 2) W (by omega) (by omega) (by omega) ((HA.out.stays hW).take _)
      have ih2 := fun W (hW : Below w.heap.size w W) => ih (l.drop (l.length / 2)) (some ⟨g, fromN o cap (l.length / 2), none⟩) (cap - l.length / 2) W (by omega) (by omega) (by omega) ((HA.out.stays hW).from _ hcap)
      simp only [e1] at ih1
      simp only [e2] at ih2
      have hsl1 := fun W => slice_cutN W g o l.length cap (l.length / 2) ((l.length : Int) / 2) (by omega) (by omega)
      have hsl2 := fun W => slice_fromN W g o l.length cap (l.length / 2) ((l.length : Int) / 2) (by omega) (by omega)
      have hmg := fun a b ao bo ca cb W h1 h2 h3 h4 h5 h6 => mergedN_any a b ao bo ca cb W h1 h2 h3 h4 h5 h6
      unfold aheadFnN at *
      clear ih
      have m1 : Hid True := ⟨trivial⟩
      go_enter Try.func104, Try.ntmps104
      go_wp2_with fail
      go_region_held3 (fun _ => True) (trivial) (first | (go_at_call 104; clear m1; refine (ih1 _ (Below.refl _ _).drew).mono ?_; rintro e w1 ⟨v1, s1, rfl, hp1, ho1, hw1, hb1⟩; have hB1 : Below w.heap.size w w1 := (Below.refl _ _).drew.trans (hb1.mono (by simp)); obtain ⟨a1, c1, rfl, hc1, hA1⟩ := owns_atN hw1; clear ih1 hw1) | (go_at_call 104; refine (ih2 _ hB1).mono ?_; rintro e w2 ⟨v2, s2, rfl, hp2, ho2, hw2, hb2⟩; have hB2 : Below w.heap.size w w2 := hB1.trans (hb2.mono hB1.size); obtain ⟨a2, c2, rfl, hc2, hA2⟩ := owns_atN hw2; have hl1 : Hid (s1.length ≤ 400) := ⟨by have h0 := hp1.length_eq; omega⟩; have hl2 : Hid (s2.length ≤ 400) := ⟨by have h0 := hp2.length_eq; omega⟩; clear ih2 hw2) | (go_at_call 124; refine (hmg s1 s2 a1 a2 c1 c2 w2 hl1.out hl2.out hc1 hc2 (hA1.stays hb2) hA2).mono ?_; rintro e w3 ⟨v3, rfl, hO3, hb3⟩))
      have hB3 : Below w.heap.size w w3 := hB2.trans (hb3.mono hB2.size)
      have HF : Hid (w3.ownsRow w.heap.size 79 4 v3 (mrgN s1 s2).length (flatG NodG.cells (mrgN s1 s2))) := ⟨owns_lower hO3.1 hB2.size⟩
      clear hmg hO3
      go_wp2
      go_ret
      refine ⟨v3, mrgN s1 s2, rfl, ?_, mrgN_ord ho1 ho2, HF.out, hB3⟩
      refine (mrgN_perm s1 s2).trans ((hp1.append hp2).trans ?_)
      rw [List.take_append_drop]
end Go.Proofs.Ytcpgkalafkhlgae.OpR
namespace Go.Proofs.Ytcpgkalafkhlgae.NumR
open Go.RowKit
set_option linter.unusedVariables false

/-- What PutNum takes for n. -/
def foldI (n : Int) : Int := if n < 0 then -2 * n - 1 else 2 * n
theorem foldI_neg {n : Int} (h : n < 0) : foldI n = -2 * n - 1 := if_pos h
theorem foldI_pos {n : Int} (h : ¬ n < 0) : foldI n = 2 * n := if_neg h

/-- A byte that is not the last. -/
def hiB (u : Nat) : UInt8 := UInt8.ofNat (u % 128 + 128)
/-- The bytes of u, seven bits a byte, the lowest first, by fuel. -/
def lebF : Nat → Nat → List UInt8
  | 0, u => [UInt8.ofNat u]
  | f + 1, u => if u < 128 then [UInt8.ofNat u] else hiB u :: lebF f (u / 128)
theorem lebF_last {f u : Nat} (h : u < 128) : lebF f u = [UInt8.ofNat u] := by
  cases f with
  | zero => rfl
  | succ f => exact if_pos h
theorem lebF_more {f u : Nat} (h : ¬ u < 128) : lebF (f + 1) u = hiB u :: lebF f (u / 128) := if_neg h
theorem lebF_fuel : ∀ (f g u : Nat), u ≤ f → u ≤ g → lebF f u = lebF g u
  | 0, g, u, h1, h2 => by rw [lebF_last (by omega), lebF_last (by omega)]
  | f + 1, 0, u, h1, h2 => by rw [lebF_last (by omega), lebF_last (by omega)]
  | f + 1, g + 1, u, h1, h2 => by
    by_cases h : u < 128
    · rw [lebF_last h, lebF_last h]
    · rw [lebF_more h, lebF_more h, lebF_fuel f g (u / 128) (by omega) (by omega)]
/-- The bytes of u. -/
def leb (u : Nat) : List UInt8 := lebF u u
theorem leb_last {u : Nat} (h : u < 128) : leb u = [UInt8.ofNat u] := lebF_last h
theorem leb_more {u : Nat} (h : ¬ u < 128) : leb u = hiB u :: leb (u / 128) := by
  obtain ⟨f, rfl⟩ : ∃ f, u = f + 1 := ⟨u - 1, by omega⟩
  show lebF (f + 1) (f + 1) = _
  rw [lebF_more h, lebF_fuel f ((f + 1) / 128) _ (by omega) (Nat.le_refl _)]
  rfl

/-- The bytes as cells. -/
def cellsOf (l : List UInt8) : List Value := l.map fun b => .int .u8 (b.toNat : Int)
theorem cellsOf_snoc (l : List UInt8) (b : UInt8) : cellsOf (l ++ [b]) = cellsOf l ++ [.int .u8 (b.toNat : Int)] := by simp [cellsOf]
theorem cellsOf_len (l : List UInt8) : (cellsOf l).length = l.length := by simp [cellsOf]

theorem byte_lo {u : Nat} (h : u < 128) : ((UInt8.ofNat u).toNat : Int) = (u : Int) := by
  rw [UInt8.toNat_ofNat', Nat.mod_eq_of_lt (by omega)]
theorem byte_hi {u : Nat} : ((hiB u).toNat : Int) = (u : Int) % 128 + 128 := by
  unfold hiB; rw [UInt8.toNat_ofNat', Nat.mod_eq_of_lt (by omega)]; omega
theorem with_cells {w : World} {base : Nat} {e : TypeId} {size : Nat} {v : Value} {n : Nat} {xs ys : List Value} (h : w.ownsRow base e size v n xs) (hy : ys = xs) : w.ownsRow base e size v n ys := hy ▸ h

theorem places {u' j : Nat} (h : u' * 128 ^ j < 18446744073709551616) (h2 : ¬ u' < 128) : j ≤ 8 := by
  refine Decidable.byContradiction fun hj => ?_
  have e : 128 ^ 9 ≤ 128 ^ j := Nat.pow_le_pow_right (by decide) (by omega)
  have e2 : 128 * 128 ^ 9 ≤ u' * 128 ^ j := Nat.mul_le_mul (by omega) e
  have e3 : (128 : Nat) * 128 ^ 9 = 1180591620717411303424 := by decide
  omega
theorem places_step {u' j : Nat} (h : u' * 128 ^ j < 18446744073709551616) : u' / 128 * 128 ^ (j + 1) < 18446744073709551616 := by
  have : u' / 128 * 128 ^ (j + 1) ≤ u' * 128 ^ j := by
    rw [Nat.pow_succ, ← Nat.mul_assoc, Nat.mul_right_comm]
    exact Nat.mul_le_mul_right _ (Nat.div_mul_le_self _ _)
  omega
theorem places9 {u' j : Nat} (hp : 0 < u' ∨ j ≤ 9) (h : u' * 128 ^ j < 18446744073709551616) : j ≤ 9 := by
  refine Decidable.byContradiction fun hj => ?_
  have e : 128 ^ 10 ≤ 128 ^ j := Nat.pow_le_pow_right (by decide) (by omega)
  have e2 : 1 * 128 ^ 10 ≤ u' * 128 ^ j := Nat.mul_le_mul (by omega) e
  have e3 : (1 : Nat) * 128 ^ 10 = 1180591620717411303424 := by decide
  omega

/-- The ten bytes of the array, the first ones written. -/
def arr (l : List UInt8) : Array Value := (cellsOf l ++ List.replicate (10 - l.length) (Value.int .u8 0)).toArray
theorem arr_size {l : List UInt8} (h : l.length ≤ 10) : (arr l).size = 10 := by simp [arr, cellsOf]; omega
theorem arr_set {l : List UInt8} (h : l.length ≤ 9) (b : UInt8) (v : Int) (hv : (b.toNat : Int) = v) : (arr l).setIfInBounds l.length (.int .u8 v) = arr (l ++ [b]) := by
  subst hv
  unfold arr
  rw [cellsOf_snoc]
  have e : 10 - l.length = (10 - (l ++ [b]).length) + 1 := by simp; omega
  rw [e, List.replicate_succ]
  simp only [List.setIfInBounds_toArray]
  congr 1
  rw [List.set_append_right _ _ (by rw [cellsOf_len]; exact Nat.le_refl _), cellsOf_len, Nat.sub_self, List.set_cons_zero, List.append_assoc]
  rfl

theorem arr_at {l : List UInt8} (h : l.length ≤ 9) : (arr l)[l.length]? = some (.int .u8 0) := by
  unfold arr
  rw [List.getElem?_toArray, List.getElem?_append_right (by rw [cellsOf_len]; exact Nat.le_refl _), cellsOf_len, Nat.sub_self]
  rw [show 10 - l.length = (9 - l.length) + 1 by omega, List.replicate_succ]
  rfl
theorem or_all : ∀ a : Fin 256, (a.val ||| 128) = a.val % 128 + 128 := by decide +kernel
theorem or_hi {u : Nat} : ((hiB u).toNat : Int) = bits .or .u8 ((u : Int) % 256) 128 := by
  rw [byte_hi]
  have e := u8_or_nat (u % 256) 128 (by omega) (by omega)
  have e2 := or_all ⟨u % 256, by omega⟩
  simp only at e2
  rw [e2] at e
  have e3 : ((u % 256 : Nat) : Int) = (u : Int) % 256 := by omega
  rw [e3] at e
  exact (by rw [show ((128 : Nat) : Int) = 128 from rfl] at e; rw [e]; omega)
theorem xor_zero (a : Int) (h1 : 0 ≤ a) (h2 : a < 18446744073709551616) : bits .xor .u64 a 0 = a := by
  have := u64_xor a 0 h1 h2 (by omega) (by omega)
  rw [this]; simp; omega
theorem xor_ones (a : Int) (h1 : 0 ≤ a) (h2 : a < 18446744073709551616) : bits .xor .u64 a 18446744073709551615 = 18446744073709551615 - a := by
  obtain ⟨k, rfl⟩ : ∃ k : Nat, a = (k : Int) := ⟨a.toNat, by omega⟩
  have hk : k < 2 ^ 64 := by omega
  have e := u64_xor_nat k 18446744073709551615 (by omega) (by omega)
  have e2 : (k ^^^ 18446744073709551615 : Nat) = 18446744073709551615 - k := by
    have h := congrArg BitVec.toNat (BitVec.xor_allOnes (x := BitVec.ofNat 64 k))
    rw [BitVec.toNat_xor, BitVec.toNat_not, BitVec.toNat_ofNat, Nat.mod_eq_of_lt hk] at h
    exact h
  rw [e2] at e
  exact e.trans (by omega)
theorem fold_bits (n : Int) (h1 : -9223372036854775808 ≤ n) (h2 : n ≤ 9223372036854775807) :
    bits .xor .u64 (IntKind.u64.wrap (IntKind.u64.wrap n * 2)) (IntKind.u64.wrap (n / 9223372036854775808)) = foldI n := by
  simp only [IntKind.wrap_u64]
  by_cases h : n < 0
  · rw [foldI_neg h, show n / 9223372036854775808 % 18446744073709551616 = 18446744073709551615 by omega, xor_ones _ (by omega) (by omega)]; omega
  · rw [foldI_pos h, show n / 9223372036854775808 % 18446744073709551616 = 0 by omega, xor_zero _ (by omega) (by omega)]; omega

theorem ret_int {k : IntKind} {a b : Int} (h : a = b) : Ending.returned (.int k a) = .returned (.int k b) := by rw [h]
theorem ret_str {a b : ByteArray} (h : a = b) : Ending.returned (.string a) = .returned (.string b) := by rw [h]
theorem val_int {k : IntKind} {a b : Int} (h : a = b) : Value.int k a = .int k b := by rw [h]
end Go.Proofs.Ytcpgkalafkhlgae.NumR
namespace Go.Proofs.Ytcpgkalafkhlgae.NumR
open Go.ChangeShapes Go.WideShapes Go.ChangeAt Go.RowKit
set_option linter.unusedVariables false

def cat : List ByteArray → List UInt8
  | [] => []
  | t :: l => t.data.toList ++ cat l
theorem cat_append (a b : List ByteArray) : cat (a ++ b) = cat a ++ cat b := by
  induction a with
  | nil => rfl
  | cons t l ih => simp [cat, ih]
theorem cat_take_succ (ts : List ByteArray) (k : Nat) (h : k < ts.length) : cat (ts.take (k + 1)) = cat (ts.take k) ++ ts[k].data.toList := by
  rw [List.take_succ_eq_append_getElem h, cat_append]; simp [cat]
theorem cat_take_le (ts : List ByteArray) (k : Nat) : (cat (ts.take k)).length ≤ (cat ts).length := by
  have h := cat_append (ts.take k) (ts.drop k)
  rw [List.take_append_drop] at h
  rw [h]; simp
theorem size_list (t : ByteArray) : t.data.toList.length = t.size := by simp

def row (N : Nat) (l : List UInt8) : Array Value := (cellsOf l ++ List.replicate (N - l.length) (Value.int .u8 0)).toArray
theorem row_made (N : Nat) : madeCells #[Value.int .u8 0] N = row N [] := by
  apply Array.toList_inj.1
  rw [toList_madeCells_one]; simp [row, cellsOf]
theorem row_size {N : Nat} {l : List UInt8} (h : l.length ≤ N) : (row N l).size = N := by simp [row, cellsOf]; omega
theorem row_put {N : Nat} {l m : List UInt8} (h : l.length + m.length ≤ N) : ((row N l).toList.take l.length ++ cellsOf m ++ (row N l).toList.drop (l.length + m.length)).toArray = row N (l ++ m) := by
  unfold row
  congr 1
  have e1 : (cellsOf l ++ List.replicate (N - l.length) (Value.int .u8 0)).take l.length = cellsOf l := by
    rw [List.take_append_of_le_length (by rw [cellsOf_len]; exact Nat.le_refl _), List.take_of_length_le (by rw [cellsOf_len]; exact Nat.le_refl _)]
  have e2 : (cellsOf l ++ List.replicate (N - l.length) (Value.int .u8 0)).drop (l.length + m.length) = List.replicate (N - (l ++ m).length) (Value.int .u8 0) := by
    rw [List.drop_append, cellsOf_len, List.drop_of_length_le (by rw [cellsOf_len]; omega), List.nil_append, List.drop_replicate]
    congr 1; simp; omega
  rw [e1, e2]
  simp [cellsOf]

theorem info8' : (Try.prog.info? 5).map (fun i => (i.zero, i.size, i.bytes)) = some (some (.int .u8 0), 1, 1) := by kernel_rfl

/-- Where the rest of the row begins. -/
def offOf (N k : Nat) : Nat := if N = k then 0 else k
theorem slice_off (W : World) (g N k : Nat) (h : k ≤ N) :
    (Instr.slice 111 (.slice (some ⟨g, 0, none⟩) N N) (some (.int .i64 (k : Int))) none none).run Try.prog W = .ok (.slice (some ⟨g, offOf N k, none⟩) (N - k) (N - k)) W := by
  have ht : Try.prog.underlying 111 = some (.slice (Try.prog.elem 111)) := by kernel_rfl
  have hs : ∀ w, (sizeOf (Try.prog.elem 111)).run Try.prog w = .ok 1 w := fun _ => by kernel_rfl
  rw [run_slice_l W 111 (some ⟨g, 0, none⟩) N N ht .i64 (k : Int) (by omega) (by omega), hs]
  simp only [Result.andThen, sliced, Int.toNat_natCast]
  unfold offOf
  by_cases e : N = k
  · simp [e]
  · simp [e, Addr.add]
    intro h0; subst h0; rfl

theorem copy_row (w : World) (N : Nat) (l : List UInt8) (s : ByteArray) (h : l.length + s.size ≤ N) :
    (Builtin.copy_ #[111, 9] 3 #[.slice (some ⟨w.heap.size, offOf N l.length, none⟩) (N - l.length) (N - l.length), .string s]).run Try.prog (w.alloc (.cells (row N l) 5)) = .ok (.int .i64 (s.size : Int)) (w.alloc (.cells (row N (l ++ s.data.toList)) 5)) := by
  by_cases h0 : s.size = 0
  · have e : s.data.toList = [] := List.length_eq_zero_iff.1 (by rw [size_list]; exact h0)
    rw [Lib.run_copy_empty_string (P := Try.prog) _ 111 9 3 5 _ _ _ s Try.underlying111 (by kernel_rfl) h0, e, List.append_nil, h0]
    rfl
  · have hne : ¬ N = l.length := by omega
    have eo : offOf N l.length = l.length := if_neg hne
    rw [eo, Lib.run_copy_row_string (P := Try.prog) _ 111 9 3 5 w.heap.size l.length _ _ s (row N l) 5 Try.underlying111 (by kernel_rfl) (heap_alloc_new w _) (by omega) (by rw [row_size (by omega)]; exact h), World.setRow_alloc_new]
    have e2 := row_put (N := N) (l := l) (m := s.data.toList) (by rw [size_list]; exact h)
    rw [size_list] at e2
    rw [show Lib.byteCells s.data.toList = cellsOf s.data.toList from rfl, e2]
    rfl

theorem conv_row (w : World) (N : Nat) (l : List UInt8) (hn : l.length = N) :
    (convert 111 9 (.slice (some ⟨w.heap.size, 0, none⟩) N N)).run Try.prog (w.alloc (.cells (row N l) 5)) = .ok (.string ⟨l.toArray⟩) (w.alloc (.cells (row N l) 5)) := by
  subst hn
  refine run_convert_bytes_back (P := Try.prog) _ 111 9 5 ⟨w.heap.size, 0, none⟩ l.length l Try.underlying111 Try.underlying5 Try.underlying9 fun j hj => ?_
  rw [Addr.add_lit, Nat.zero_add]
  simp only [row, cellsOf, World.cell?_alloc_at, List.getElem?_toArray]
  rw [List.getElem?_append_left (by simpa using hj)]
  simp [hj]

set_option maxRecDepth 100000 in
set_option maxHeartbeats 1000000 in
theorem joined_cap (ts : List ByteArray) (cap a : Nat) (w : World) (ha : a < w.heap.size) (hc : ∀ j (hj : j < ts.length), w.cell? ⟨a, j, none⟩ = some (.string ts[j])) (hT : (cat ts).length ≤ 1099511627776) (hn : ts.length ≤ 1048576) :
    Calls Try.prog 83 #[.slice (some ⟨a, 0, none⟩) ts.length cap] w fun e w' => e = .returned (.string ⟨(cat ts).toArray⟩) ∧ Below w.heap.size w w' := by
  obtain ⟨N, HN⟩ : ∃ N, Hid ((cat ts).length = N) := ⟨_, rfl⟩
  have hN : N ≤ 1099511627776 := by rw [← HN.out]; exact hT
  go_enter Try.func83, Try.ntmps83
  go_wp2
  go_loop [3, 12] (fun z i => ∃ k : Nat, k ≤ ts.length ∧ i = .int .i64 k ∧ z = .int .i64 ((cat (ts.take k)).length : Int)) (fun _ i => ts.length - (intOf i).toNat)
  case atStart => exact ⟨0, Nat.zero_le _, rfl, rfl⟩
  case round =>
    obtain ⟨k, hk, rfl, rfl⟩ := hrel
    have hle := cat_take_le ts k
    by_cases hlt : k < ts.length
    · have hcx := hc k hlt
      have hle1 := cat_take_le ts (k + 1)
      have hs := congrArg List.length (cat_take_succ ts k hlt)
      rw [List.length_append, size_list] at hs
      have HS : Hid ((cat (ts.take (k + 1))).length = (cat (ts.take k)).length + ts[k].size) := hs
      have hb : (cat (ts.take k)).length + ts[k].size ≤ 1099511627776 := by omega
      clear hle1 hs hle
      go_wp2
      go_round
      case rel => exact ⟨k + 1, by omega, by go_num, val_int (by rw [HS.out]; omega)⟩
      case measure => simp [intOf]; omega
    · have hkk : (cat (ts.take k)).length = N := by rw [List.take_of_length_le (by omega)]; exact HN.out
      have hmk : ∀ w, (Instr.makeSlice 111 (.int .i64 (N : Int)) (.int .i64 (N : Int))).run Try.prog w = .ok (.slice (some ⟨w.heap.size, 0, none⟩) N N) (w.alloc (.cells (row N []) 5)) :=
        fun w => by rw [← row_made]; exact run_make_row' 111 5 (.int .u8 0) 1 Try.underlying111 info8' rfl .i64 .i64 N (by omega) (by omega) w
      clear hle hT
      go_wp2
      clear hmk
      go_loopw [7, 25] (fun z i wr => ∃ m : Nat, m ≤ ts.length ∧ i = .int .i64 m ∧ z = .int .i64 ((cat (ts.take m)).length : Int) ∧ wr = w.alloc (.cells (row N (cat (ts.take m))) 5)) (fun _ i _ => ts.length - (intOf i).toNat)
      case atStart => exact ⟨0, Nat.zero_le _, rfl, rfl, rfl⟩
      case round =>
        obtain ⟨m, hm, rfl, rfl, rfl⟩ := hrel
        have HLE : Hid ((cat (ts.take m)).length ≤ N) := HN.out ▸ cat_take_le ts m
        by_cases hlt2 : m < ts.length
        · have hcx : (w.alloc (.cells (row N (cat (ts.take m))) 5)).cell? ⟨a, m, none⟩ = some (.string ts[m]) := by rw [World.cell?_alloc_past _ _ _ ha]; exact hc m hlt2
          have HC : Hid (cat (ts.take (m + 1)) = cat (ts.take m) ++ ts[m].data.toList) := cat_take_succ ts m hlt2
          have HB : Hid ((cat (ts.take m)).length + ts[m].size ≤ N) := by
            have hle1 := cat_take_le ts (m + 1)
            have hs := congrArg List.length HC.out
            rw [List.length_append, size_list] at hs
            have := HN.out
            show _ ≤ _
            omega
          have hb : (cat (ts.take m)).length + ts[m].size ≤ 1099511627776 := by have := HB.out; omega
          have hsl := fun W => slice_off W w.heap.size N _ HLE.out
          have hcp := copy_row w N (cat (ts.take m)) ts[m] HB.out
          go_wp2
          go_roundw
          case rel => exact ⟨m + 1, by omega, by go_num, val_int (by rw [HC.out, List.length_append, size_list]; omega), by rw [HC.out]⟩
          case measure => simp [intOf]; omega
        · have hfin : cat (ts.take m) = cat ts := by rw [List.take_of_length_le (by omega)]
          have hcv := conv_row w N (cat (ts.take m)) (by rw [hfin]; exact HN.out)
          have HF : Hid (cat (ts.take m) = cat ts) := hfin
          clear hfin
          go_wp2
          go_ret
          exact ⟨ret_str (by rw [HF.out]), (Below.refl _ _).alloc (Nat.le_refl _) _⟩
theorem joined_any (ts : List ByteArray) (a : Nat) (w : World) (ha : a < w.heap.size) (hc : ∀ j (hj : j < ts.length), w.cell? ⟨a, j, none⟩ = some (.string ts[j])) (hT : (cat ts).length ≤ 1099511627776) (hn : ts.length ≤ 1048576) :
    Calls Try.prog 83 #[.slice (some ⟨a, 0, none⟩) ts.length ts.length] w fun e w' => e = .returned (.string ⟨(cat ts).toArray⟩) ∧ Below w.heap.size w w' := joined_cap ts ts.length a w ha hc hT hn
end Go.Proofs.Ytcpgkalafkhlgae.NumR
