/- A region that draws its order and only reads, in a round of a range over a function: one walk of the order of the text serves. Proves what impl.find tells: where names lead. Proves what impl.Find tells. Proves the walk of the law FnExactFind. -/
import Derived.Test.YtmidembbanlleafDoorIUnd
import Derived.Sort.QuietIn
import Derived.Test.YtmidembbanlleafDoorIBel
import Derived.Test.YtmidembbanlleafDoorFgC
import Derived.Test.YtmidembbanlleafDoorITree
import Derived.Test.YtmidembbanlleafDoorTrLaw
namespace Go.Proofs.YtmidembbanlleafDoor.OpR
open Go
set_option linter.unusedVariables false

section
variable {F : Fence} {n : Nat} {P : Program} {ops : Array Oper} {md : Region.Mode} {Q : Exit → Act → World → Prop}
theorem oper_round (l : Nat) {o : Oper} (hnd : ∀ c, o.op ≠ .defer c) {a : Act} {w : World} {K : Act → World → Prop} (h : o.wpIn F n P a w K Q) : o.wpIn (F.inRound l) n P a w K Q := by
  have h2 := h.2
  rw [Oper.semAt_plain F _ _ hnd] at h2
  refine ⟨h.1, ?_⟩
  rw [Oper.semAt_plain (F.inRound l) _ _ hnd]
  exact h2
theorem any_round (l : Nat) (hnd : ∀ (i : Nat) o, ops[i]? = some o → ∀ c, o.op ≠ .defer c) : ∀ (fuel : Nat) (listed : Array Bool) (a : Act) (w : World), wpAnyIn F n P md ops Q fuel listed a w → wpAnyIn (F.inRound l) n P md ops Q fuel listed a w
  | 0, _, _, _, h => h
  | fuel + 1, _, _, _, h => by
    refine ⟨h.1, fun i hi => ?_⟩
    have h1 := wpOpIn_mono (any_round l hnd fuel _) (h.2 i hi)
    unfold wpOpIn at h1 ⊢
    split
    · rename_i e
      rw [e] at h1
      exact h1
    · rename_i o e
      rw [e] at h1
      simp only at h1
      split
      · rename_i hw
        rw [if_pos hw] at h1
        exact oper_round l (hnd i o e) h1
      · rename_i hw
        rw [if_neg hw] at h1
        exact h1
theorem quiet_round {id l : Nat} {a : Act} {w : World} {os : List Oper} (hro : F.round = none) (hm : P.follows .mixedOrders = true) (hnd : (os.all fun o => match o.op with | .defer _ => false | _ => true) = true) (hB : Region.lexB .any os.toArray = true)
    (h : wpQuietIn F n P os.toArray (fun w' => ∃ q, w' = w.drewN q) (fun a' => ∀ w', (∃ q, w' = w.drewN q) → Q .normal a' w') os a) : (Code.region id os.toArray true).wpIn (F.inRound l) n P Q a w := by
  simp only [Region.lexB, Bool.and_eq_true] at hB
  have hd : ∀ (i : Nat) o, os.toArray[i]? = some o → ∀ c, o.op ≠ .defer c := fun i o ho c e => by
    have hmem : o ∈ os := by
      rw [List.getElem?_toArray] at ho
      exact List.mem_of_getElem? ho
    have := List.all_eq_true.1 hnd o hmem
    rw [e] at this
    cases this
  refine wpIn_region_any hm (any_round l hd _ _ _ _ (wpAnyIn_of_quiet (C := fun w' => ∃ q, w' = w.drewN q) (Q := fun a' => ∀ w', (∃ q, w' = w.drewN q) → Q .normal a' w') hro (fun _ w' hw' h => h w' hw') _ _ _ _ ⟨1, rfl⟩ ?_))
  have := wpAnyQIn_lex (F := F) (n := n) (C := fun w' => ∃ q, w' = w.drewN q) (md := .any) hB.1 os.toArray.toList 0 (Array.replicate os.toArray.size false) a (by simp) (by simpa using hB.2) (by simpa using h)
  simpa using this
end
end Go.Proofs.YtmidembbanlleafDoor.OpR
namespace Go.Proofs.YtmidembbanlleafDoor.OpR
open Go.ChangeShapes Go.WideShapes Go.ChangeAt Go.RowKit Go.Shelf
set_option linter.unusedVariables false
attribute [local go_sem] Oper.semAt_some

theorem rev_at {nm : List ByteArray} {i : Nat} (h : i < nm.length) : nm.reverse.drop (nm.length - 1 - i) = nm[i] :: nm.reverse.drop (nm.length - i) := by
  rw [List.drop_eq_getElem_cons (by simp; omega), List.getElem_reverse]
  congr 1
  · congr 1; omega
  · congr 1; omega
theorem rev_end (nm : List ByteArray) : nm.reverse.drop (nm.length - 0) = [] := List.drop_of_length_le (by simp)
theorem up_name {l : List NodG} {y : Int} {s : ByteArray} {r : List ByteArray} {m : NodG} (h : ¬ m.name.toList = s.toList) : upOk l y (s :: r) m = false := by
  cases r with
  | nil => simp [upOk, h]
  | cons t r => simp [upOk, h]
theorem up_end {l : List NodG} {y : Int} {s : ByteArray} {m : NodG} (h : m.name.toList = s.toList) : upOk l y [s] m = decide (m.parent = y) := by simp [upOk, h]
theorem up_soon {l : List NodG} {y : Int} {s t : ByteArray} {r : List ByteArray} {m : NodG} (h : m.name.toList = s.toList) (hp : m.parent = y) : upOk l y (s :: t :: r) m = false := by simp [upOk, hp]
theorem up_on {l : List NodG} {y : Int} {s t : ByteArray} {r : List ByteArray} {m p : NodG} (h : m.name.toList = s.toList) (hp : ¬ m.parent = y) (hn : nodOf l m.parent = some p) : upOk l y (s :: t :: r) m = upOk l y (t :: r) p := by simp [upOk, h, hp, hn]
theorem below_drewC2 {B : Nat} {a b : World} (h : Below B a b) (n : Nat) : Below B a (b.drewN n) := ⟨h.os, h.tape, h.output, h.size, h.block⟩
theorem keepB_of {Bk n₀ : Nat} {W W' : World} (h : Below W.heap.size W W') : KeepB Bk n₀ W W' := ⟨h.size, fun k o ho _ _ => (h.block k (Array.getElem?_eq_some_iff.1 ho).1).trans ho⟩
theorem keepsF_of {B : Nat} {W W' : World} (h : Below W.heap.size W W') : KeepsFrom B W W' := ⟨h.size, fun k o _ ho _ => (h.block k (Array.getElem?_eq_some_iff.1 ho).1).trans ho⟩
theorem keepsF_set {B F : Nat} {W V : World} (h : Below W.heap.size W V) (hF : F < B) (u : Value) : KeepsFrom B W (V.setCell ⟨F, 0, none⟩ u) :=
  ⟨Nat.le_trans h.size (by simp [World.setCell]), fun k o hB ho _ => (Below.heap_setCell V ⟨F, 0, none⟩ u k (by show k ≠ F; omega)).trans ((h.block k (Array.getElem?_eq_some_iff.1 ho).1).trans ho)⟩
theorem par_rng {l : List NodG} (ht : TreeR l) {x : Int} {p : NodG} (h : nodOf l x = some p) : -9223372036854775808 ≤ x ∧ x ≤ 9223372036854775807 := by
  unfold nodOf at h
  have hm := List.mem_of_find?_eq_some h
  have he : p.id = x := by simpa using List.find?_some h
  have h1 := ht.2.2 p hm
  unfold nodOk at h1
  rw [Bool.and_eq_true] at h1
  have h2 := h1.1
  simp [isIn] at h2
  omega
section
variable {F : Fence} {nF : Nat} (w : World) {ops : Array Oper} {rest : List Oper} {o : Oper} {a : Act} {Q : Exit → Act → World → Prop}
/-- 'nodes[x]', where there is one, in a fence. -/
theorem wpListIn_get_some (hg : o.guard = none) (m x : Operand) (hop : o.op = Op.lookup 42 m x false) (B : Nat) (l : List (Int × NodG)) (hm : a.eval m = .map (some B)) (hM : MapAt w B l)
    (key : Int) (hk : -9223372036854775808 ≤ key ∧ key ≤ 9223372036854775807) (hx : a.eval x = .int .i64 key) (n : NodG) (hn : kvAt l key = some n)
    (hK : wpListIn F nF Tryd.prog ops Q rest (a.put o.dst (.agg #[.int .i64 n.id, .int .i64 n.parent, .string n.name, .slice n.pao n.props.length n.pcap])) w) :
    wpListIn F nF Tryd.prog ops Q (o :: rest) a w := by
  refine wpListIn_plain hg fun K' hK' => ?_
  obtain ⟨v, ps, hrun, hv⟩ := World.ownsMap.lookup hM lawK Tryd.underlying42 (zeroN w) (zd := .held _) (zp := []) rfl (key_i64 hk)
  rw [kvD_some hn] at hv
  simp only [rdN, Option.some.injEq, Prod.mk.injEq, DataW.held.injEq] at hv
  obtain ⟨rfl, _⟩ := hv
  unfold Oper.wpIn
  refine ⟨by simp [Oper.about, hop], ?_⟩
  rw [Oper.semAt_plain F _ _ (by rw [hop]; intro c hc'; cases hc')]
  simp [execOp, hop, hm, hx, hrun, Result.andThen]
  exact hK' _ _ hK
end
theorem cells4w {w : World} {g : Nat} {m : NodG} {T : TypeId} (h : w.heap[g]? = some (.cells #[.int .i64 m.id, .int .i64 m.parent, .string m.name, .slice m.pao m.props.length m.pcap] T (0, 0))) : w.cell? ⟨g, 0, none⟩ = some (.int .i64 m.id) ∧ w.cell? ⟨g, 1, none⟩ = some (.int .i64 m.parent) ∧ w.cell? ⟨g, 2, none⟩ = some (.string m.name) ∧ w.cell? ⟨g, 3, none⟩ = some (.slice m.pao m.props.length m.pcap) ∧ w.frozen? ⟨g, 0, none⟩ = false ∧ w.frozen? ⟨g, 1, none⟩ = false ∧ w.frozen? ⟨g, 2, none⟩ = false ∧ w.frozen? ⟨g, 3, none⟩ = false := cells4 h
set_option maxRecDepth 100000 in
set_option maxHeartbeats 2000000 in
theorem iFnd_any (l : List NodG) (ht : TreeR l) (B : Nat) (y : Int) (nm : List ByteArray) (g nc : Nat) (w : World) (hne : 0 < nm.length) (hL : nm.length ≤ 1048577) (hM : MapAt w B (kvOf l)) (hN : NamesAt w g 0 nm) :
    Calls Tryd.prog 17 #[.map (some B), .int .i64 y, .slice (some ⟨g, 0, none⟩) nm.length nc] w fun e w' => e = .returned (.int .i64 (resI (findS l nm y))) ∧ Below w.heap.size w w' := by
  have HT := hide ht
  have HM := hide hM
  have HN := hide hN
  have HFS := hide (find_same ht nm y)
  clear ht hM hN
  refine (callsIn_wide (n := 3)).1 ?_
  refine callsIn_of_wp_marks Tryd.func17 rfl trivial ?_ rfl
  simp only [Tryd.ntmps17, List.size_toArray, List.length_cons, List.length_nil, Nat.reduceAdd, Nat.reduceSub, Array.replicate_succ, Array.replicate_zero, List.push_toArray, List.append_toArray, List.nil_append, List.cons_append]
  gi_wp2
  refine wpIn_wide.2 (wp_scope_straight ((wpIn_wide (n := 3)).1 ?_))
  gi_wp2
  refine wpIn_label ?_
  have hB0 := Below.refl w.heap.size w
  have hB1 := hB0.alloc (Nat.le_refl _) (.cells #[.map (some B)] 42)
  have hB2 := hB1.alloc hB1.size (.cells #[.int .i64 y] 2)
  have hB3 := hB2.alloc hB2.size (.cells #[.slice (some ⟨g, 0, none⟩) nm.length nc] 36)
  have hB4 := hB3.alloc hB3.size (.cells #[.int .i64 (-1)] 2)
  gi_wp2_with (first | (refine ⟨trivial, ?_⟩; gi_at_call 32; refine (callsIn_wide.2 (below_any B y _)).mono ?_; rintro e w3 ⟨rfl, hm3, hy3, hb3⟩))
  simp only [World.size_alloc] at hm3 hy3 ⊢
  have hs3 := hb3.size
  simp only [World.size_alloc] at hs3
  have hBw : Below w.heap.size w w3 := hB4.trans (hb3.mono hB4.size)
  have bM : w3.heap[w.heap.size]? = some (.cells #[.map (some B)] 42) := (hb3.block _ (by simp only [World.size_alloc]; omega)).trans ((Below.heap_alloc _ _ _ (by simp only [World.size_alloc]; omega)).trans ((Below.heap_alloc _ _ _ (by simp only [World.size_alloc]; omega)).trans ((Below.heap_alloc _ _ _ (by simp only [World.size_alloc]; omega)).trans (heap_alloc_new w _))))
  have bY : w3.heap[w.heap.size + 1]? = some (.cells #[.int .i64 y] 2) := (hb3.block _ (by simp only [World.size_alloc]; omega)).trans ((Below.heap_alloc _ _ _ (by simp only [World.size_alloc]; omega)).trans ((Below.heap_alloc _ _ _ (by simp only [World.size_alloc]; omega)).trans (by simpa using heap_alloc_new (w.alloc (.cells #[.map (some B)] 42)) _)))
  have bN : w3.heap[w.heap.size + 1 + 1]? = some (.cells #[.slice (some ⟨g, 0, none⟩) nm.length nc] 36) := (hb3.block _ (by simp only [World.size_alloc]; omega)).trans ((Below.heap_alloc _ _ _ (by simp only [World.size_alloc]; omega)).trans (by simpa using heap_alloc_new ((w.alloc (.cells #[.map (some B)] 42)).alloc (.cells #[.int .i64 y] 2)) _))
  have bF : Boxed w3 (w.heap.size + 1 + 1 + 1) 2 (.int .i64 (-1)) := (hb3.block _ (by simp only [World.size_alloc]; omega)).trans (by simpa using heap_alloc_new (((w.alloc (.cells #[.map (some B)] 42)).alloc (.cells #[.int .i64 y] 2)).alloc (.cells #[.slice (some ⟨g, 0, none⟩) nm.length nc] 36)) _)
  have hM3 := HM.out.stays hBw
  have hN3 := HN.out.stays hBw
  have hBlt := HM.out.lt
  have hw3s := hBw.size
  clear hB0 hB1 hB2 hB3 hB4 hb3
  refine wpIn_rangeFunc_ownH rfl (by omega) (gf := 43) (lb := #[.pointer (some ⟨w.heap.size + 1 + 1 + 1 + 1, 0, none⟩), .pointer (some ⟨w.heap.size + 1 + 1 + 1 + 1 + 1, 0, none⟩)]) rfl trivial (enters_of Tryd.func43 (by kernel_rfl) rfl)
    (below_all 2 (by omega) (w.heap.size + 1 + 1 + 1 + 1) (w.heap.size + 1 + 1 + 1 + 1 + 1) B (w.heap.size + 1 + 1 + 1) w3.heap.size l y HT.out w3 bF.lt (by omega) (by omega) (by omega) hM3.lt hm3 hy3 hM3) KeepB.trans (KeepB.put (Nat.le_refl _)) (Below.refl _ _) (fun _ => rfl)
    (fun pre W => (∀ z ∈ pre, upOk l y nm.reverse z.1 = false) ∧ Below w3.heap.size w3 W)
    (fun c pre W => c = .exit 0 ∧ ∃ (p : List (BelowN l y)) (x : BelowN l y), pre = p ++ [x] ∧ (∀ z ∈ p, upOk l y nm.reverse z.1 = false) ∧ upOk l y nm.reverse x.1 = true ∧ Boxed W (w.heap.size + 1 + 1 + 1) 2 (.int .i64 x.1.id) ∧ Below w.heap.size w W)
    (OwnFrom.and (ownFrom_pure _ _) (ownFrom_below (Nat.le_refl _) (Nat.le_refl _)))
    (fun c s X Y row hs hg hr => by
      obtain ⟨e, p, x, e1, e2, e3, hb, hB⟩ := hs
      exact ⟨e, p, x, e1, e2, e3, (boxed_own (β := Unit) (w.heap.size + 1 + 1 + 1) 2 (fun _ => .int .i64 x.1.id)) () X Y row hb hg (fun r e => (hr r e).2), (ownFrom_below (β := Unit) (Nat.le_refl _) hw3s) () X Y row hB hg hr⟩)
    ⟨fun z hz => absurd hz (by simp), Below.refl _ _⟩
    (fun x a' W => ∃ Bx, w3.heap.size ≤ Bx ∧ W.heap[Bx]? = some (.cells #[.int .i64 x.1.id, .int .i64 x.1.parent, .string x.1.name, .slice x.1.pao x.1.props.length x.1.pcap] 53 (0, 0)) ∧ a' = { tmps := #[.map (some B), .int .i64 y, .slice (some ⟨g, 0, none⟩) nm.length nc, .pointer (some ⟨w.heap.size, 0, none⟩), .pointer (some ⟨w.heap.size + 1, 0, none⟩), .pointer (some ⟨w.heap.size + 1 + 1, 0, none⟩), .int .i64 0, .pointer (some ⟨w.heap.size + 1 + 1 + 1, 0, none⟩), .pointer (some ⟨Bx, 0, none⟩), undef, undef, .map (some B), .int .i64 y, .func (.func 43) #[] #[.pointer (some ⟨w.heap.size + 1 + 1 + 1 + 1, 0, none⟩), .pointer (some ⟨w.heap.size + 1 + 1 + 1 + 1 + 1, 0, none⟩)], .agg #[.int .i64 x.1.id, .int .i64 x.1.parent, .string x.1.name, .slice x.1.pao x.1.props.length x.1.pcap], undef, undef, undef, undef, undef, undef, undef, undef, undef, undef, undef, undef, undef, undef, undef, undef, undef, undef, undef, undef, undef, undef, undef, undef, undef, undef, undef, undef, undef, undef, undef, undef, undef], defers := [] })
    (fun x a' _ X Y row hs hg hr => by
      obtain ⟨Bx, e1, e2, e3⟩ := hs
      refine ⟨Bx, e1, (hg.block Bx (Array.getElem?_eq_some_iff.1 e2).1 (fun e => ?_)).trans e2, e3⟩
      obtain ⟨_, o, ho, hc⟩ := hr Bx e.symm
      rw [e2] at ho
      cases ho
      cases hc)
    ?assign ?body ?done ?stop
  case assign =>
    rintro l' pre x W K ⟨hno, hBW⟩ hK
    unfold NodG.agg
    gi_wp2
    exact hK _ _ ((KeepsOthers.alloc _ _).from _) (keepB_of ((Below.refl _ _).alloc (Nat.le_refl _) _)) ⟨hno, hBW.alloc hBW.size _⟩ ⟨W.heap.size, hBW.size, heap_alloc_new W _, rfl⟩
  case body =>
    rintro l' pre x a' W hl' ⟨r, hr⟩ ⟨hno, hBW⟩ ⟨Bx, hBx, bX, rfl⟩ hlt
    have hsb := hBW.size
    have HX4 : Hid (∀ W2, Below W.heap.size W W2 → W2.heap[Bx]? = some (.cells #[.int .i64 x.1.id, .int .i64 x.1.parent, .string x.1.name, .slice x.1.pao x.1.props.length x.1.pcap] 53 (0, 0))) := ⟨fun W2 h => (h.block Bx (Array.getElem?_eq_some_iff.1 bX).1).trans bX⟩
    have HW3 : Hid (∀ W2, Below W.heap.size W W2 → Below w3.heap.size w3 W2) := ⟨fun W2 h => hBW.trans (h.mono hBW.size)⟩
    obtain ⟨x0, x1, x2, x3, _, _, _, _⟩ := cells4w bX
    have hcN : W.cell? ⟨w.heap.size + 1 + 1, 0, none⟩ = some (.slice (some ⟨g, 0, none⟩) nm.length nc) := (cells1 ((hBW.block _ (Array.getElem?_eq_some_iff.1 bN).1).trans bN)).1
    have HLr : Hid (∃ r, W.heap[l']? = some (.loop r)) := ⟨⟨r, hr⟩⟩
    have HNo := hide hno
    have HNoX : Hid (upOk l y nm.reverse x.1 = false → ∀ z ∈ pre ++ [x], upOk l y nm.reverse z.1 = false) := ⟨fun h z hz => by
      rcases List.mem_append.1 hz with hz | hz
      · exact hno z hz
      · rw [List.mem_singleton.1 hz]; exact h⟩
    have hlen1 : (0 : Int) ≤ (nm.length : Int) - 1 := by omega
    clear hr hno
    have hcN2 : (W.alloc (.cells #[.int .i64 x.1.id, .int .i64 x.1.parent, .string x.1.name, .slice x.1.pao x.1.props.length x.1.pcap] 53)).cell? ⟨w.heap.size + 1 + 1, 0, none⟩ = some (.slice (some ⟨g, 0, none⟩) nm.length nc) := (cells1 ((Below.heap_alloc W _ _ (by omega)).trans ((hBW.block _ (Array.getElem?_eq_some_iff.1 bN).1).trans bN))).1
    gi_wp2
    clear x0 x1 x2 x3 hcN hcN2
    gi_loopw [10] (fun v wr => ∃ (i : Nat) (m : BelowN l y), i < nm.length ∧ v = .int .i64 i ∧ wr.heap[W.heap.size]? = some (.cells #[.int .i64 m.1.id, .int .i64 m.1.parent, .string m.1.name, .slice m.1.pao m.1.props.length m.1.pcap] 53 (0, 0)) ∧ Hid (upOk l y (nm.reverse.drop (nm.length - 1 - i)) m.1 = upOk l y nm.reverse x.1) ∧ Below W.heap.size W wr) (fun v _ => (intOf v + 1).toNat)
    case atStart => exact ⟨nm.length - 1, x, by omega, by congr 1; omega, heap_alloc_new W _, ⟨by rw [Nat.sub_self, List.drop_zero]⟩, (Below.refl _ _).alloc (Nat.le_refl _) _⟩
    case round =>
      obtain ⟨i, m, hi, rfl, hat, HU, hb⟩ := hrel
      have hmix : Tryd.prog.follows .mixedOrders = true := by kernel_rfl
      obtain ⟨a0, a1, a2, a3, f0, f1, f2, f3⟩ := cells4w hat
      have HAt := hide hat
      have hB3' := HW3.out wr hb
      have cM : wr.cell? ⟨w.heap.size, 0, none⟩ = some (.map (some B)) := (cells1 ((hB3'.block _ (Array.getElem?_eq_some_iff.1 bM).1).trans bM)).1
      have cY : wr.cell? ⟨w.heap.size + 1, 0, none⟩ = some (.int .i64 y) := (cells1 ((hB3'.block _ (Array.getElem?_eq_some_iff.1 bY).1).trans bY)).1
      have cN : wr.cell? ⟨w.heap.size + 1 + 1, 0, none⟩ = some (.slice (some ⟨g, 0, none⟩) nm.length nc) := (cells1 ((hB3'.block _ (Array.getElem?_eq_some_iff.1 bN).1).trans bN)).1
      have cn : wr.cell? ⟨g, i, none⟩ = some (.string nm[i]) := by have := (hN3.stays hB3').2 i hi; rwa [Nat.zero_add] at this
      have hi0 : (0 : Int) ≤ (i : Int) := by omega
      have hi1 : (i : Int) < (nm.length : Int) := by omega
      have HB := hide hb
      clear hat hb hB3'
      by_cases he : m.1.name.toList = nm[i].toList
      · have hq1 : (m.1.name.toList == nm[i].toList) = true := beq_iff_eq.2 he
        have hq2 : (m.1.name.toList != nm[i].toList) = false := by rw [bne, hq1]; rfl
        by_cases hp : m.1.parent = y
        · have hp1 : (m.1.parent == y) = true := beq_iff_eq.2 hp
          by_cases h0 : i = 0
          · have h01 : ((i : Int) == 0) = true := by rw [beq_iff_eq]; omega
            have HZ : Hid (upOk l y nm.reverse x.1 = true) := ⟨by
              rw [← HU.out, rev_at hi]
              subst h0
              rw [rev_end, up_end he]
              simp [hp]⟩
            clear he hp h0
            gi_wp2_with fail
            refine quiet_round rfl (by kernel_rfl) (by kernel_rfl) (by kernel_rfl) ?_
            repeat (gi_big_quiet_step (fail))
            refine wpQuietIn_nil ?_
            intro _ hw'
            obtain ⟨nq, hw''⟩ := hw'
            subst hw''
            have xi := (cells4w (HX4.out wr HB.out)).1
            have bF2 : Boxed wr (w.heap.size + 1 + 1 + 1) 2 (.int .i64 (-1)) := ((HW3.out wr HB.out).block _ (Array.getElem?_eq_some_iff.1 bF).1).trans bF
            have cF := bF2.cell
            have fF := bF2.frozen
            clear a0 a1 a2 a3 f0 f1 f2 f3 cM cY cN cn
            have hBd := below_drewC2 HB.out nq
            have HBd := hide hBd
            have HBF : Hid (Boxed (wr.drewN nq) (w.heap.size + 1 + 1 + 1) 2 (.int .i64 (-1))) := ⟨bF2⟩
            clear hBd bF2
            gi_wp2
            exact ⟨keepsF_set HBd.out (by omega) _, rfl, pre, x, rfl, HNo.out, HZ.out, HBF.out.set _, (hBw.trans ((HW3.out _ HBd.out).mono hBw.size)).setCell (p := ⟨w.heap.size + 1 + 1 + 1, 0, none⟩) (show w.heap.size ≤ w.heap.size + 1 + 1 + 1 by omega) _⟩
          · have h01 : ((i : Int) == 0) = false := by rw [beq_eq_false_iff_ne]; omega
            have HZ : Hid (upOk l y nm.reverse x.1 = false) := ⟨by
              rw [← HU.out, rev_at hi]
              obtain ⟨k, rfl⟩ : ∃ k, i = k + 1 := ⟨i - 1, by omega⟩
              rw [show nm.length - (k + 1) = nm.length - 1 - k by omega, rev_at (i := k) (by omega)]
              exact up_soon he hp⟩
            clear he hp
            gi_wp2_with fail
            refine quiet_round rfl (by kernel_rfl) (by kernel_rfl) (by kernel_rfl) ?_
            repeat (gi_big_quiet_step (fail))
            refine wpQuietIn_nil ?_
            intro _ hw'
            obtain ⟨nq, hw''⟩ := hw'
            subst hw''
            clear a0 a1 a2 a3 f0 f1 f2 f3 cM cY cN cn
            gi_wp2
            exact ⟨keepsF_of (below_drewC2 HB.out _), keepB_of (below_drewC2 HB.out _), HNoX.out HZ.out, HW3.out _ (below_drewC2 HB.out _)⟩
        · have hp1 : (m.1.parent == y) = false := beq_eq_false_iff_ne.2 hp
          by_cases h0 : i = 0
          · have h01 : ((i : Int) == 0) = true := by rw [beq_iff_eq]; omega
            have HZ : Hid (upOk l y nm.reverse x.1 = false) := ⟨by
              rw [← HU.out, rev_at hi]
              subst h0
              rw [rev_end, up_end he]
              simp [hp]⟩
            clear he hp h0
            gi_wp2_with fail
            refine quiet_round rfl (by kernel_rfl) (by kernel_rfl) (by kernel_rfl) ?_
            repeat (gi_big_quiet_step (fail))
            refine wpQuietIn_nil ?_
            intro _ hw'
            obtain ⟨nq, hw''⟩ := hw'
            subst hw''
            clear a0 a1 a2 a3 f0 f1 f2 f3 cM cY cN cn
            gi_wp2
            exact ⟨keepsF_of (below_drewC2 HB.out _), keepB_of (below_drewC2 HB.out _), HNoX.out HZ.out, HW3.out _ (below_drewC2 HB.out _)⟩
          · have h01 : ((i : Int) == 0) = false := by rw [beq_eq_false_iff_ne]; omega
            obtain ⟨p, hpn⟩ : ∃ p : BelowN l y, nodOf l m.1.parent = some p.1 := by
              rcases dfs_par HT.out _ y (Nat.lt_succ_self _) m.1 m.2 with h | ⟨p, hp1, hp2⟩
              · exact absurd h hp
              · exact ⟨⟨p, hp1⟩, hp2⟩
            have HPn := hide hpn
            obtain ⟨k, rfl⟩ : ∃ k, i = k + 1 := ⟨i - 1, by omega⟩
            have HU2 : Hid (upOk l y (nm.reverse.drop (nm.length - 1 - k)) p.1 = upOk l y nm.reverse x.1) := ⟨by
              rw [← HU.out, rev_at hi, show nm.length - (k + 1) = nm.length - 1 - k by omega, rev_at (i := k) (by omega)]
              exact (up_on he hp hpn).symm⟩
            clear he hp h0 hpn
            gi_wp2_with fail
            refine quiet_round rfl (by kernel_rfl) (by kernel_rfl) (by kernel_rfl) ?_
            repeat (gi_big_quiet_step (fail))
            refine wpQuietIn_nil ?_
            intro _ hw'
            obtain ⟨nq, hw''⟩ := hw'
            subst hw''
            have hM5 := HM.out.stays (hBw.trans ((HW3.out wr HB.out).mono hBw.size))
            have hkey := par_rng HT.out HPn.out
            have HBd := hide (below_drewC2 HB.out nq)
            have HPb := hide (puts_block (w := wr) (g := W.heap.size) (T := 53) [.int .i64 p.1.id, .int .i64 p.1.parent, .string p.1.name, .slice p.1.pao p.1.props.length p.1.pcap] [.int .i64 m.1.id, .int .i64 m.1.parent, .string m.1.name, .slice m.1.pao m.1.props.length m.1.pcap] 0 (wr.drewN nq) HAt.out)
            gi_wp2_with (gi_at_lookup; refine wpListIn_get_some _ rfl _ _ rfl B (kvOf l) rfl hM5 m.1.parent hkey rfl p.1 (by rw [kvAt_of]; exact HPn.out) ?_)
            go_roundw
            case rel => exact ⟨k, p, by omega, by first | rfl | go_num | (congr 1; omega), HPb.out, HU2, puts_below (Nat.le_refl _) [.int .i64 p.1.id, .int .i64 p.1.parent, .string p.1.name, .slice p.1.pao p.1.props.length p.1.pcap] 0 _ HBd.out⟩
            case measure => simp [intOf]; omega
      · have hq1 : (m.1.name.toList == nm[i].toList) = false := beq_eq_false_iff_ne.2 he
        have hq2 : (m.1.name.toList != nm[i].toList) = true := by rw [bne, hq1]; rfl
        have HZ : Hid (upOk l y nm.reverse x.1 = false) := ⟨by rw [← HU.out, rev_at hi]; exact up_name he⟩
        clear he
        gi_wp2_with fail
        refine quiet_round rfl (by kernel_rfl) (by kernel_rfl) (by kernel_rfl) ?_
        repeat (gi_big_quiet_step (fail))
        refine wpQuietIn_nil ?_
        intro _ hw'
        obtain ⟨nq, hw''⟩ := hw'
        subst hw''
        clear a0 a1 a2 a3 f0 f1 f2 f3 cM cY cN cn
        gi_wp2
        exact ⟨keepsF_of (below_drewC2 HB.out _), keepB_of (below_drewC2 HB.out _), HNoX.out HZ.out, HW3.out _ (below_drewC2 HB.out _)⟩
  case done =>
    rintro D ys W hD hys ⟨hno, hBW⟩ hK
    have hbx : Boxed W (w.heap.size + 1 + 1 + 1) 2 (.int .i64 (-1)) := (hBW.block _ (Array.getElem?_eq_some_iff.1 bF).1).trans bF
    have hc := hbx.cell
    have HF : Hid (findS l nm y = none) := ⟨by
      rw [← HFS.out, ← hys]
      refine find_none fun n hn => ?_
      obtain ⟨z, hz, rfl⟩ := List.mem_map.1 hn
      exact hno z hz⟩
    have hBv := hBw.trans (hBW.mono hBw.size)
    gi_wp2
    rw [Exit.noGoto_ret]
    refine ⟨by simp, .inl ⟨_, _, rfl, run_takeDeferred hK, ?_⟩⟩
    exact ⟨_, results_tmp rfl _ _ _, by rw [HF.out]; rfl, hBv.trans (belowK_b (w := w) (Nat.le_refl _) W D _ _ (Nat.le_trans hw3s hD) hK rfl rfl)⟩
  case stop =>
    rintro D c pre W hD hSp ⟨rfl, p, x, rfl, hno, hyes, hbx, hBW⟩ hK
    have hc := hbx.cell
    have HF : Hid (findS l nm y = some x.1) := ⟨by
      rw [← HFS.out]
      obtain ⟨q, hq⟩ := hSp
      refine (congrArg (List.find? (upOk l y nm.reverse)) hq.symm).trans ?_
      rw [List.map_append, List.map_cons, List.map_nil, List.append_assoc, List.find?_append, find_none (fun n hn => by
        obtain ⟨z, hz, rfl⟩ := List.mem_map.1 hn
        exact hno z hz)]
      simp [hyes]⟩
    gi_wp2
    rw [Exit.noGoto_ret]
    refine ⟨by simp, .inl ⟨_, _, rfl, run_takeDeferred hK, ?_⟩⟩
    exact ⟨_, results_tmp rfl _ _ _, by rw [HF.out]; rfl, hBW.trans (belowK_b (w := w) (Nat.le_refl _) W D _ _ (Nat.le_trans hw3s hD) hK rfl rfl)⟩
end Go.Proofs.YtmidembbanlleafDoor.OpR
namespace Go.Proofs.YtmidembbanlleafDoor.OpR
open Go.ChangeShapes Go.WideShapes Go.ChangeAt Go.RowKit
set_option linter.unusedVariables false

set_option maxRecDepth 100000 in
set_option maxHeartbeats 2000000 in
theorem iFind_any (l : List NodG) (ao : Option Addr) (cap : Nat) (p : ByteArray) (w : World) (hl : l.length ≤ 1048576) (hp : p.size ≤ 1048576) (hg : Rng l) (hA : NodesAt w ao l) (hS : ∀ n ∈ l, Sized1 1048576 n) :
    Calls Tryd.prog 7 #[.agg #[.slice ao l.length cap], .string p] w fun e w' => e = .returned (.int .i64 (findRes l p)) ∧ Below w.heap.size w w' := by
  have htr := fun W (hW : Below w.heap.size w W) => iTree_any l ao cap W hl hg (hA.stays hW) hS
  have H1 := hide (Box1.start w (.slice ao l.length cap) 29)
  have HA := hide hA
  have HG := hide hg
  have m1 : Hid True := ⟨trivial⟩
  clear hA hS hg
  by_cases h8 : p.size ≤ 8000
  · have hd8 : decide ((8000 : Int) < (p.size : Int)) = false := by simp; omega
    cases ht : treeRight l
    · have HF := hide (findRes_not (p := p) ht)
      simp only [ht] at htr
      clear ht
      go_enter Tryd.func7, Tryd.ntmps7
      go_wp2_with (first | (go_at_call 14; refine (htr _ H1.out.below).mono ?_; rintro e w1 ⟨rfl, hb1⟩))
      go_ret
      exact ⟨by rw [HF.out]; rfl, (H1.out.step hb1).below⟩
    · have HTR := hide ((treeR_iff l).1 ht)
      have hno := fun W (hW : Below w.heap.size w W) => nodesOf_any l ao cap W hl HTR.out.2.1 HG.out (HA.out.stays hW)
      have HNO := hide hno
      simp only [ht] at htr
      clear hno
      cases ho : opens 126 p
      · have HC1 := hide (fun W => cut_no 126 p W hp ho)
        have hql : p.size ≤ 1048576 := hp
        have HF0 := hide (findRes_root h8 ht ho)
        clear ht ho
        cases hs : opens 47 p
        · have HF := hide (HF0.out.trans (findFrom_no hs))
          have HC2 := hide (fun W => cut_no 47 p W hql hs)
          clear hs
          go_enter Tryd.func7, Tryd.ntmps7
          go_wp2_with (first | (go_at_call 14; refine (htr _ H1.out.below).mono ?_; rintro e w1 ⟨rfl, hb1⟩; have HX := hide (H1.out.step hb1); have hc := HX.out.cell; clear hb1) | (go_at_call 15; clear m1; refine (HC1.out _).mono ?_; rintro e w2 ⟨rfl, rfl⟩) | (go_at_call 15; refine (HC2.out _).mono ?_; rintro e w3 ⟨rfl, rfl⟩))
          go_ret
          exact ⟨by rw [HF.out]; rfl, HX.out.below⟩
        · have HF := hide (HF0.out.trans (findFrom_yes hs))
          have HC2 := hide (fun W => cut_yes 47 p W hql hs)
          clear hs
          have hul : (p.extract 1 p.size).size ≤ 1048576 := by rw [ByteArray.size_extract]; omega
          obtain ⟨u, hu⟩ : ∃ u, p.extract 1 p.size = u := ⟨_, rfl⟩
          rw [hu] at HF HC2 hul
          have HSp := hide (fun W => split_any u W hul)
          have HLn : Hid ((namesL u.data.toList).length ≤ 1048577) := ⟨by rw [namesL_len]; have := count_size u; omega⟩
          obtain ⟨s0, ns, hns⟩ := names_cons u.data.toList
          rw [hns] at HSp HF HLn
          clear hns hu
          go_enter Tryd.func7, Tryd.ntmps7
          go_wp2_with (first | (go_at_call 14; refine (htr _ H1.out.below).mono ?_; rintro e w1 ⟨rfl, hb1⟩; have HX := hide (H1.out.step hb1); have hc := HX.out.cell; clear hb1) | (go_at_call 15; clear m1; refine (HC1.out _).mono ?_; rintro e w2 ⟨rfl, rfl⟩) | (go_at_call 15; refine (HC2.out _).mono ?_; rintro e w3 ⟨rfl, rfl⟩) | (go_at_call 16; refine (HNO.out _ HX.out.below).mono ?_; rintro e w4 ⟨B, rfl, hB, hM4, hb4⟩; have HM4 := hide hM4; have HX4 := hide (HX.out.step hb4); clear hM4 hb4 hB hc) | (go_at_call 18; refine (HSp.out _).mono ?_; rintro e w5 ⟨v5, rfl, hT, hb5⟩; obtain ⟨g5, c5, rfl, hc5, hN5⟩ := hT.names (by simp); have HN5 := hide hN5; have HM5 := hide (HM4.out.stays hb5); have HX5 := hide (HX4.out.step hb5); clear hT hb5 hN5 hc5) | (go_at_call 17; refine (iFnd_any l HTR.out B 0 (s0 :: ns) g5 c5 w5 (by simp) HLn.out HM5.out HN5.out).mono ?_; rintro e w6 ⟨rfl, hb6⟩; have HX6 := hide (HX5.out.step hb6); clear hb6))
          go_ret
          exact ⟨by rw [HF.out]; rfl, HX6.out.below⟩
      · have HC1 := hide (fun W => cut_yes 126 p W hp ho)
        have hql : (p.extract 1 p.size).size ≤ 1048576 := by rw [ByteArray.size_extract]; omega
        have HF0 := hide (findRes_trash h8 ht ho)
        obtain ⟨q, hq⟩ : ∃ q, p.extract 1 p.size = q := ⟨_, rfl⟩
        rw [hq] at HC1 hql HF0
        clear hq
        clear ht ho
        cases hs : opens 47 q
        · have HF := hide (HF0.out.trans (findFrom_no hs))
          have HC2 := hide (fun W => cut_no 47 q W hql hs)
          clear hs
          go_enter Tryd.func7, Tryd.ntmps7
          go_wp2_with (first | (go_at_call 14; refine (htr _ H1.out.below).mono ?_; rintro e w1 ⟨rfl, hb1⟩; have HX := hide (H1.out.step hb1); have hc := HX.out.cell; clear hb1) | (go_at_call 15; clear m1; refine (HC1.out _).mono ?_; rintro e w2 ⟨rfl, rfl⟩) | (go_at_call 15; refine (HC2.out _).mono ?_; rintro e w3 ⟨rfl, rfl⟩))
          go_ret
          exact ⟨by rw [HF.out]; rfl, HX.out.below⟩
        · have HF := hide (HF0.out.trans (findFrom_yes hs))
          have HC2 := hide (fun W => cut_yes 47 q W hql hs)
          clear hs
          have hul : (q.extract 1 q.size).size ≤ 1048576 := by rw [ByteArray.size_extract]; omega
          obtain ⟨u, hu⟩ : ∃ u, q.extract 1 q.size = u := ⟨_, rfl⟩
          rw [hu] at HF HC2 hul
          have HSp := hide (fun W => split_any u W hul)
          have HLn : Hid ((namesL u.data.toList).length ≤ 1048577) := ⟨by rw [namesL_len]; have := count_size u; omega⟩
          obtain ⟨s0, ns, hns⟩ := names_cons u.data.toList
          rw [hns] at HSp HF HLn
          clear hns hu
          go_enter Tryd.func7, Tryd.ntmps7
          go_wp2_with (first | (go_at_call 14; refine (htr _ H1.out.below).mono ?_; rintro e w1 ⟨rfl, hb1⟩; have HX := hide (H1.out.step hb1); have hc := HX.out.cell; clear hb1) | (go_at_call 15; clear m1; refine (HC1.out _).mono ?_; rintro e w2 ⟨rfl, rfl⟩) | (go_at_call 15; refine (HC2.out _).mono ?_; rintro e w3 ⟨rfl, rfl⟩) | (go_at_call 16; refine (HNO.out _ HX.out.below).mono ?_; rintro e w4 ⟨B, rfl, hB, hM4, hb4⟩; have HM4 := hide hM4; have HX4 := hide (HX.out.step hb4); clear hM4 hb4 hB hc) | (go_at_call 18; refine (HSp.out _).mono ?_; rintro e w5 ⟨v5, rfl, hT, hb5⟩; obtain ⟨g5, c5, rfl, hc5, hN5⟩ := hT.names (by simp); have HN5 := hide hN5; have HM5 := hide (HM4.out.stays hb5); have HX5 := hide (HX4.out.step hb5); clear hT hb5 hN5 hc5) | (go_at_call 17; refine (iFnd_any l HTR.out B 1 (s0 :: ns) g5 c5 w5 (by simp) HLn.out HM5.out HN5.out).mono ?_; rintro e w6 ⟨rfl, hb6⟩; have HX6 := hide (HX5.out.step hb6); clear hb6))
          go_ret
          exact ⟨by rw [HF.out]; rfl, HX6.out.below⟩
  · have HF := hide (findRes_long (l := l) h8)
    have hd8 : decide ((8000 : Int) < (p.size : Int)) = true := by simp; omega
    clear htr
    go_enter Tryd.func7, Tryd.ntmps7
    go_wp2
    go_ret
    exact ⟨by rw [HF.out]; rfl, H1.out.below⟩
end Go.Proofs.YtmidembbanlleafDoor.OpR
namespace Go.Proofs.YtmidembbanlleafDoor.OpR
open Go.ChangeShapes Go.WideShapes Go.ChangeAt Go.RowKit
set_option linter.unusedVariables false

theorem insC_bareF (n : NodG) : ∀ s : List NodG, insC n.bare (s.map NodG.bare) = (insC n s).map NodG.bare
  | [] => rfl
  | q :: r => by
    simp only [List.map_cons, insC]
    rw [show leName q.bare n.bare = leName q n from rfl]
    split
    · rw [insC_bareF n r]; rfl
    · rfl
theorem kidsTo_bareF (y : Int) : ∀ s l : List NodG, kidsTo y (s.map NodG.bare) (l.map NodG.bare) = (kidsTo y s l).map NodG.bare
  | s, [] => rfl
  | s, n :: r => by
    simp only [List.map_cons, kidsTo]
    rw [show n.bare.parent = n.parent from rfl, ← kidsTo_bareF y _ r]
    congr 1
    split
    · exact insC_bareF n s
    · rfl
theorem kids_bare (l : List NodG) (y : Int) : kids (l.map NodG.bare) y = (kids l y).map NodG.bare := kidsTo_bareF y [] l
theorem findL_bare {f f' : NodG → Option NodG} (h : ∀ c, f' c.bare = (f c).map NodG.bare) : ∀ K : List NodG, findL f' (K.map NodG.bare) = (findL f K).map NodG.bare
  | [] => rfl
  | c :: r => by
    rw [List.map_cons, findL_cons, findL_cons, h c, findL_bare h r]
    cases f c <;> rfl
theorem findS_bare (l : List NodG) : ∀ (ns : List ByteArray) (y : Int), findS (l.map NodG.bare) ns y = (findS l ns y).map NodG.bare
  | [], _ => rfl
  | s :: r, y => by
    rw [findS, findS, kids_bare]
    refine findL_bare (fun c => ?_) _
    show (if c.name.toList = s.toList then (if r.isEmpty = true then some c.bare else findS (l.map NodG.bare) r c.id) else none) = _
    split
    · split
      · rfl
      · exact findS_bare l r c.id
    · rfl
theorem resI_bare (o : Option NodG) : resI (o.map NodG.bare) = resI o := by cases o <;> rfl
theorem findRes_alike {l d : List NodG} (h : d.map NodG.bare = l.map NodG.bare) (p : ByteArray) : findRes d p = findRes l p := by
  have e : ∀ l : List NodG, findRes (l.map NodG.bare) p = findRes l p := fun l => by
    unfold findRes findFrom
    simp only [tree_bare, findS_bare, resI_bare]
  rw [← e d, h, e]
set_option maxRecDepth 100000 in
set_option maxHeartbeats 1000000 in
theorem law_find (w : World) (ao : Option Addr) (cap : Nat) (l : List NodG) (p : ByteArray) (hC : CameTree w ao l) (hx : p.size ≤ maxLen) :
    Calls Tryd.prog 3 #[.agg #[.slice ao l.length cap], .string p] w fun e w' => e = .returned (.bool true) ∧ Below w.heap.size w w' := by
  obtain ⟨hl, hA, hS, hG⟩ := hC
  have hsz := fun W (hW : Below w.heap.size w W) => szTree_any l ao cap W hl (hA.stays hW) hS
  have HSZ := hide hsz
  have HA := hide hA
  have HG := hide hG
  have HB0 := hide (Box1.start w (.slice ao l.length cap) 24)
  have m1 : Hid True := ⟨trivial⟩
  have m2 : Hid True := ⟨trivial⟩
  clear hsz hA hS hG hl
  unfold maxLen at hx
  by_cases hq : 1048576 < p.size
  · have hd : decide ((1048576 : Int) < (p.size : Int)) = true := by simp; omega
    go_enter Tryd.func3, Tryd.ntmps3
    go_wp2
    go_ret
    exact ⟨rfl, HB0.out.below⟩
  have hp : p.size ≤ 1048576 := by omega
  have hd : decide ((1048576 : Int) < (p.size : Int)) = false := by simp; omega
  obtain ⟨r, hr⟩ : ∃ r, findRes l p = r := ⟨_, rfl⟩
  go_enter Tryd.func3, Tryd.ntmps3
  go_wp2_with (first | (go_at_call 4; refine (HSZ.out _ HB0.out.below).mono ?_; rintro e w1 ⟨m, rfl, hm0, hm1, hm2, hb1⟩; have HM := hide hm2; have hbx := HB0.out.step hb1; have HB1 := hide hbx; have hc := hbx.cell; clear hm2 hb1 hbx) | (go_at_call 6; clear m1; obtain ⟨hl2, hs2⟩ := HM.out (by omega); have HS2 := hide hs2; clear hs2; refine (toTree_any l ao cap w1 hl2 (HA.out.stays HB1.out.below) (fun n hn => (HS2.out n hn).2.1)).mono ?_; rintro e w2 ⟨d2, g2, rfl, hd2, hbr2, hb2⟩; have h3 := sFindT_any d2 _ d2.length p w2 (by rw [bare_len hbr2]; exact hl2) hp hd2.nodesAt (sized_alike hbr2 HS2.out); rw [findRes_alike hbr2, hr] at h3; have H3 := hide h3; have hbx := HB1.out.step hb2; have HB2 := hide hbx; clear hc hd2 hbr2 hb2 h3; have hc := hbx.cell; clear hbx) | (go_at_call 5; refine H3.out.mono ?_; rintro e w3 ⟨rfl, hb3⟩; have hbx := HB2.out.step hb3; have HB3 := hide hbx; clear hc hb3; have hc := hbx.cell; clear hbx) | (go_at_call 6; clear m2; refine (toTree_any l ao cap w3 hl2 (HA.out.stays HB3.out.below) (fun n hn => (HS2.out n hn).2.1)).mono ?_; rintro e w4 ⟨d4, g4, rfl, hd4, hbr4, hb4⟩; have HD4 := hide hd4; have HR4 := hide hbr4; have hbx := HB3.out.step hb4; have HB4 := hide hbx; clear hc hd4 hbr4 hb4; have hc := hbx.cell; clear hbx) | (go_at_call 7; have h5 := iFind_any d4 _ d4.length p _ (by rw [bare_len HR4.out]; exact hl2) hp (rng_alike HR4.out HG.out) (HD4.out.stays ((Below.refl _ _).alloc (Nat.le_refl _) (.cells #[.slice (some ⟨g4, 0, none⟩) d4.length d4.length] 29))).nodesAt (sized_alike HR4.out HS2.out); rw [findRes_alike HR4.out, hr] at h5; refine h5.mono ?_; clear h5; rintro e w5 ⟨rfl, hb5⟩; have hbx := (HB4.out.other (.cells #[.slice (some ⟨g4, 0, none⟩) d4.length d4.length] 29)).step hb5; have HB5 := hide hbx; have hby := (Box1.start w4 (.slice (some ⟨g4, 0, none⟩) d4.length d4.length) 29).step hb5; have HX5 := hide hby; have HD5 := hide ((HD4.out.stays ((Below.refl _ _).alloc (Nat.le_refl _) (.cells #[.slice (some ⟨g4, 0, none⟩) d4.length d4.length] 29))).stays hb5); clear hc hb5; have hc := hbx.cell; have hcx := hby.cell; clear hbx hby))
  · go_ret
    exact ⟨rfl, HB1.out.below⟩
  · go_region_with (first | (go_at_call 6; refine (toTree_any l ao cap _ hl2 (HA.out.stays HB5.out.drew.below) (fun n hn => (HS2.out n hn).2.1)).mono ?_; rintro e w6 ⟨d6, g6, rfl, hd6, hbr6, hb6⟩; have HD6 := hide hd6; have HR6 := hide hbr6; have HB6 := hide (HB5.out.drew.step hb6); have HD5' := hide (HD5.out.stays ((Below.refl _ _).drew.trans hb6)); have hcx6 := (HX5.out.drew.step hb6).cell; clear hd6 hbr6 hb6) | (go_at_call 8; refine (eqTree_same d4 d6 _ _ _ _ w6 (HR6.out.trans HR4.out.symm) (by rw [bare_len HR4.out]; unfold maxLen; omega) (fun n hn => by have := (sized_alike HR4.out HS2.out n hn).2.1; unfold maxLen; omega) HD5'.out.nodesAt HD6.out.nodesAt).mono ?_; rintro e w7 ⟨rfl, hb7⟩))
    all_goals (
      go_wp2
      go_ret
      exact ⟨rfl, (HB6.out.step hb7).below⟩)
end Go.Proofs.YtmidembbanlleafDoor.OpR
