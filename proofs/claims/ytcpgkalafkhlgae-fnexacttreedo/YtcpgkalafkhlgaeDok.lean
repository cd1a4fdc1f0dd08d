/- Proves what the harness' marks do to trees, and what its look at them tells. Proves what the harness' marks do to a tree, and what its look at them tells. Proves what the harness' marks of a whole tree do, and what its look at them tells. What the laws of trees carry along: variables, trees that are looked at, trees that are marked. Proves the walk of the law FnExactTreeDo. -/
import Derived.Test.YtcpgkalafkhlgaeDoj
import Derived.Deep.Cut
import Derived.Deep.CutRange
namespace Go.Proofs.Ytcpgkalafkhlgae.OpR
open Go.ChangeShapes Go.WideShapes Go.ChangeAt Go.RowKit
set_option linter.unusedVariables false

def mark1 (k : Nat) (n : NodG) : NodG := ⟨(k : Int), (k : Int) + 1, mt (k + 2), markP (k + 3) n.props.length, n.pao, n.pcap⟩
/-- Nodes that are marked from k on. -/
def markN : Nat → List NodG → List NodG
  | _, [] => []
  | k, n :: r => mark1 k n :: markN (k + 3 + 2 * n.props.length) r
def endN : Nat → List NodG → Nat
  | k, [] => k
  | k, n :: r => endN (k + 3 + 2 * n.props.length) r
theorem markN_len : ∀ (k : Nat) (l : List NodG), (markN k l).length = l.length
  | _, [] => rfl
  | k, n :: r => by simp [markN, markN_len]
theorem endN_snoc : ∀ (k : Nat) (l : List NodG) (n : NodG), endN k (l ++ [n]) = endN k l + 3 + 2 * n.props.length
  | _, [], _ => rfl
  | k, m :: r, n => by simp only [List.cons_append, endN]; exact endN_snoc _ r n
theorem endN_take {k : Nat} {l : List NodG} {i : Nat} (h : i < l.length) : endN k (l.take (i + 1)) = endN k (l.take i) + 3 + 2 * l[i].props.length := by
  rw [← List.take_append_getElem h, endN_snoc]
theorem markN_get : ∀ {k : Nat} {l : List NodG} {i : Nat} (h : i < (markN k l).length) (hi : i < l.length), (markN k l)[i] = mark1 (endN k (l.take i)) l[i]
  | k, n :: r, 0, _, _ => rfl
  | k, n :: r, i + 1, h, hi => by
    simp only [markN, List.getElem_cons_succ, List.take_succ_cons, endN]
    exact markN_get _ _
theorem endN_le : ∀ (k : Nat) (l : List NodG), (∀ n ∈ l, n.props.length ≤ 1048576) → endN k l ≤ k + l.length * 2097155
  | k, [], _ => by simp [endN]
  | k, n :: r, h => by
    have h1 := h n (by simp)
    have h2 := endN_le (k + 3 + 2 * n.props.length) r (fun m hm => h m (by simp [hm]))
    simp only [endN, List.length_cons]
    omega
theorem endN_ge : ∀ (k : Nat) (l : List NodG), k ≤ endN k l
  | k, [] => Nat.le_refl _
  | k, n :: r => by have := endN_ge (k + 3 + 2 * n.props.length) r; simp only [endN]; omega

/-- What lies outside of a stretch of blocks is as it was. -/
structure Twixt (base top : Nat) (w w' : World) : Prop where
  os : w'.os = w.os
  tape : w'.tape = w.tape
  output : w'.output = w.output
  size : w.heap.size ≤ w'.heap.size
  block : ∀ k, k < w.heap.size → (k < base ∨ top ≤ k) → w'.heap[k]? = w.heap[k]?
theorem Twixt.refl (base top : Nat) (w : World) : Twixt base top w w := ⟨rfl, rfl, rfl, Nat.le_refl _, fun _ _ _ => rfl⟩
theorem Twixt.trans {base top : Nat} {a b c : World} (h : Twixt base top a b) (k : Twixt base top b c) : Twixt base top a c :=
  ⟨k.os.trans h.os, k.tape.trans h.tape, k.output.trans h.output, Nat.le_trans h.size k.size, fun i hi hn => (k.block i (Nat.lt_of_lt_of_le hi h.size) hn).trans (h.block i hi hn)⟩
theorem Twixt.of {base top : Nat} {a b : World} (h : Below a.heap.size a b) : Twixt base top a b := ⟨h.os, h.tape, h.output, h.size, fun k hk _ => h.block k hk⟩
theorem Twixt.set {base top : Nat} {a b : World} (h : Twixt base top a b) {g : Nat} (h1 : base ≤ g) (h2 : g < top) (p : Nat) (u : Value) : Twixt base top a (b.setCell ⟨g, p, none⟩ u) :=
  ⟨h.os, h.tape, h.output, Nat.le_trans h.size (by simp [World.setCell]), fun k hk hn => (Below.heap_setCell _ _ _ _ (show k ≠ g by omega)).trans (h.block k hk hn)⟩
theorem Twixt.grown {base top : Nat} {a b : World} {r : Option Nat} (h : a.grownBy b r) (hr : ∀ g, r = some g → base ≤ g ∧ g < top) : Twixt base top a b :=
  ⟨h.os, h.tape, h.output, h.size, fun k hk hn => h.block k hk (fun e => by have := hr k e.symm; omega)⟩
/-- The blocks of a tree lie below a number. -/
def Under (top : Nat) (v : Value) (l : List NodG) : Prop := (∀ g, v.ownBlock = some g → g < top) ∧ ∀ n ∈ l, ∀ x, n.pao = some x → x.block < top
theorem TreeOwn.under {w : World} {base : Nat} {v : Value} {l : List NodG} (h : TreeOwn w base v l) : Under w.heap.size v l :=
  ⟨fun g e => (h.row.lt g e).2, fun n hn x hx => ((h.props n hn).lt x.block (by rw [hx]; rfl)).2⟩

theorem set_pairwise {α : Type} {R : α → α → Prop} : ∀ {l : List α} {i : Nat} {x : α} (hi : i < l.length), l.Pairwise R → (∀ y, R y l[i] → R y x) → (∀ y, R l[i] y → R x y) → (l.set i x).Pairwise R
  | y :: r, 0, x, _, h, h1, h2 => by
    obtain ⟨ha, hb⟩ := List.pairwise_cons.1 h
    rw [List.set_cons_zero]
    exact List.pairwise_cons.2 ⟨fun z hz => h2 z (ha z hz), hb⟩
  | y :: r, i + 1, x, hi, h, h1, h2 => by
    obtain ⟨ha, hb⟩ := List.pairwise_cons.1 h
    rw [List.set_cons_succ]
    refine List.pairwise_cons.2 ⟨fun z hz => ?_, set_pairwise (by simpa using hi) hb h1 h2⟩
    rcases List.mem_or_eq_of_mem_set hz with hz | rfl
    · exact ha z hz
    · exact h1 y (ha _ (List.getElem_mem _))
/-- A node of a tree stored anew in a field that is no props. -/
theorem TreeOwn.field {w : World} {base g cap : Nat} {l : List NodG} (h : TreeOwn w base (.slice (some ⟨g, 0, none⟩) l.length cap) l) {j f : Nat} (hj : j < l.length) (hf : f < 4) (u : Value) (x : NodG) (hx : x.cells = l[j].cells.set f u) (hp : x.pao = l[j].pao) (hq : x.props = l[j].props) (hr : x.pcap = l[j].pcap) :
    TreeOwn (w.setCell ⟨g, j * 4 + f, none⟩ u) base (.slice (some ⟨g, 0, none⟩) (l.set j x).length cap) (l.set j x) := by
  have hoff : ∀ n ∈ l.set j x, ∀ y, n.pao = some y → g ≠ y.block := fun n hn y hy => by
    have hh : ∀ n ∈ l, ∀ y, n.pao = some y → g ≠ y.block := fun n hn y hy e => h.off n hn y hy (by rw [← e]; rfl)
    rcases List.mem_or_eq_of_mem_set hn with hn | rfl
    · exact hh n hn y hy
    · exact hh l[j] (List.getElem_mem hj) y (by rw [← hp]; exact hy)
  refine ⟨?_, fun n hn => ?_, ?_, fun n hn y hy e => hoff n hn y hy (Option.some.inj e)⟩
  · have := owns_store h.row (j * 4 + f) u
    rw [flat_field nod_len l j f hj u x hf hx] at this
    rw [List.length_set]; exact this
  · have hin : w.ownsRow base 118 2 (.slice n.pao n.props.length n.pcap) n.props.length (flatG PropV.cells n.props) := by
      rcases List.mem_or_eq_of_mem_set hn with hn | rfl
      · exact h.props n hn
      · rw [hp, hq, hr]; exact h.props _ (List.getElem_mem hj)
    refine hin.kept (row := some g) ⟨rfl, rfl, rfl, by simp [World.setCell], fun k hk hne => Below.heap_setCell _ _ _ _ (fun e => hne (by rw [e]))⟩ ?_
    cases hpa : n.pao with
    | none => exact .inl rfl
    | some y => exact .inr (fun e => hoff n hn y hpa (Option.some.inj e).symm)
  · exact set_pairwise hj h.apart (fun y hy a b ha hb => hy a b ha (by rw [← hp]; exact hb)) (fun y hy a b ha hb => hy a b (by rw [← hp]; exact ha) hb)
/-- The props of a node stored anew, where they lie. -/
theorem TreeOwn.turned {w w' : World} {base g cap : Nat} {l : List NodG} (h : TreeOwn w base (.slice (some ⟨g, 0, none⟩) l.length cap) l) {j : Nat} (hj : j < l.length) (n : NodG) (hn : l[j] = n) (ps : List PropV) (hps : ps.length = n.props.length)
    (hg : w.grownBy w' (Value.slice n.pao n.props.length n.pcap).ownBlock) (ho : w'.ownsRow base 118 2 (.slice n.pao n.props.length n.pcap) n.props.length (flatG PropV.cells ps)) :
    TreeOwn w' base (.slice (some ⟨g, 0, none⟩) (l.set j ⟨n.id, n.parent, n.name, ps, n.pao, n.pcap⟩).length cap) (l.set j ⟨n.id, n.parent, n.name, ps, n.pao, n.pcap⟩) := by
  have hnm : n ∈ l := by rw [← hn]; exact List.getElem_mem hj
  have hfl : flatG NodG.cells (l.set j ⟨n.id, n.parent, n.name, ps, n.pao, n.pcap⟩) = flatG NodG.cells l := by
    have e := flat_field nod_len l j 3 hj (.slice n.pao n.props.length n.pcap) ⟨n.id, n.parent, n.name, ps, n.pao, n.pcap⟩ (by omega) (by rw [hn]; simp [NodG.cells, hps])
    rw [← e]
    have e2 : (flatG NodG.cells l)[j * 4 + 3]? = some (.slice n.pao n.props.length n.pcap) := by rw [flatG_get nod_len l j 3 hj (by omega), hn]; rfl
    obtain ⟨h1, h2⟩ := List.getElem?_eq_some_iff.1 e2
    rw [← h2]
    exact List.set_getElem_self h1
  have hap : ∀ m ∈ l.set j ⟨n.id, n.parent, n.name, ps, n.pao, n.pcap⟩, ∀ y, m.pao = some y → g ≠ y.block := fun m hm y hy => by
    have hh : ∀ n ∈ l, ∀ y, n.pao = some y → g ≠ y.block := fun n hn y hy e => h.off n hn y hy (by rw [← e]; rfl)
    rcases List.mem_or_eq_of_mem_set hm with hm | rfl
    · exact hh m hm y hy
    · exact hh n hnm y hy
  have hP : ∀ m ∈ l.set j ⟨n.id, n.parent, n.name, ps, n.pao, n.pcap⟩, w'.ownsRow base 118 2 (.slice m.pao m.props.length m.pcap) m.props.length (flatG PropV.cells m.props) := by
    intro m hm
    obtain ⟨i, hi, rfl⟩ := List.getElem_of_mem hm
    have hi' : i < l.length := by simpa using hi
    by_cases e : j = i
    · subst e
      rw [List.getElem_set_self]
      show w'.ownsRow base _ 2 (.slice n.pao ps.length n.pcap) ps.length (flatG PropV.cells ps)
      rw [hps]; exact ho
    · rw [List.getElem_set_ne e]
      refine (h.props _ (List.getElem_mem hi')).kept hg ?_
      cases hpa : l[i].pao with
      | none => exact .inl rfl
      | some y =>
        right
        intro e2
        cases hpn : n.pao with
        | none => rw [hpn] at e2; cases e2
        | some z =>
          rw [hpn] at e2
          have e3 : y.block = z.block := Option.some.inj e2
          rcases Nat.lt_or_gt_of_ne e with hlt | hlt
          · exact List.pairwise_iff_getElem.1 h.apart j i hj hi' hlt z y (by rw [hn]; exact hpn) hpa e3.symm
          · exact List.pairwise_iff_getElem.1 h.apart i j hi' hj hlt y z hpa (by rw [hn]; exact hpn) e3
  refine ⟨?_, hP, ?_, fun m hm y hy e => hap m hm y hy (Option.some.inj e)⟩
  · rw [hfl, List.length_set]
    refine h.row.kept hg ?_
    cases hpn : n.pao with
    | none => right; intro e; cases e
    | some z => right; intro e; exact h.off n hnm z hpn (by rw [← Option.some.inj e]; rfl)
  · exact set_pairwise hj h.apart (fun y hy a b ha hb => hy a b ha (by rw [hn]; exact hb)) (fun y hy a b ha hb => hy a b (by rw [hn]; exact ha) hb)
end Go.Proofs.Ytcpgkalafkhlgae.OpR
namespace Go.Proofs.Ytcpgkalafkhlgae.OpR
open Go.ChangeShapes Go.WideShapes Go.ChangeAt Go.RowKit
set_option linter.unusedVariables false

theorem mix_mem {k : Nat} {l : List NodG} {j : Nat} {n : NodG} (h : n ∈ mixG (markN k l) l j) : ∃ m ∈ l, n.pao = m.pao ∧ n.props.length = m.props.length := by
  rcases List.mem_append.1 h with h | h
  · obtain ⟨i, hi, rfl⟩ := List.getElem_of_mem (List.mem_of_mem_take h)
    have hi' : i < l.length := by rw [markN_len] at hi; exact hi
    rw [markN_get hi hi']
    exact ⟨l[i], List.getElem_mem hi', rfl, by simp [mark1, markP_len]⟩
  · exact ⟨n, List.mem_of_mem_drop h, rfl, rfl⟩
theorem own_cell {w : World} {base : Nat} {T : TypeId} {c g N n cap : Nat} {xs : List Value} (h : w.ownsRow base T c (.slice (some ⟨g, 0, none⟩) N cap) n xs) {i : Nat} (hi : i < xs.length) : w.cell? ⟨g, i, none⟩ = some xs[i] := by
  rcases h.2 with ⟨e, _⟩ | ⟨g', cap', cur, e, hb, hg, h1, h2, h3, h4⟩
  · cases e
  · simp only [Value.slice.injEq, Option.some.injEq, Addr.mk.injEq] at e
    obtain ⟨⟨rfl, _⟩, rfl, rfl⟩ := e
    exact row_cell h hi
theorem own_free {w : World} {base : Nat} {T : TypeId} {c g N n cap : Nat} {xs : List Value} (h : w.ownsRow base T c (.slice (some ⟨g, 0, none⟩) N cap) n xs) (p : Nat) : w.frozen? ⟨g, p, none⟩ = false := by
  rcases h.2 with ⟨e, _⟩ | ⟨g', cap', cur, e, hb, hg, h1, h2, h3, h4⟩
  · cases e
  · simp only [Value.slice.injEq, Option.some.injEq, Addr.mk.injEq] at e
    obtain ⟨⟨rfl, _⟩, _, rfl⟩ := e
    simp [World.frozen?, hg]
theorem nod_cells {w : World} {base g N cap : Nat} {d : List NodG} (h : TreeOwn w base (.slice (some ⟨g, 0, none⟩) N cap) d) {j : Nat} (hj : j < d.length) : NodAt w g (j * 4) d[j] := by
  have hc : ∀ f, f < 4 → ∀ u, d[j].cells[f]? = some u → w.cell? ⟨g, j * 4 + f, none⟩ = some u := fun f hf u hu => by
    have h0 := (flatG_get nod_len d j f hj hf).trans hu
    obtain ⟨h1, h2⟩ := List.getElem?_eq_some_iff.1 h0
    have h3 := own_cell h.row h1
    rw [h2] at h3
    exact h3
  exact ⟨hc 0 (by omega) _ rfl, hc 1 (by omega) _ rfl, hc 2 (by omega) _ rfl, hc 3 (by omega) _ rfl⟩
set_option maxRecDepth 100000 in
set_option maxHeartbeats 1000000 in
theorem markNodeS_some (l : List NodG) (g cap base top k0 : Nat) (w : World) (hl : l.length ≤ 1048576) (hp : ∀ n ∈ l, n.props.length ≤ 1048576) (hk : 0 < k0) (hk2 : k0 ≤ 1048576) (hO : TreeOwn w base (.slice (some ⟨g, 0, none⟩) l.length cap) l) (hU : Under top (.slice (some ⟨g, 0, none⟩) l.length cap) l) :
    Calls Try.prog 69 #[.slice (some ⟨g, 0, none⟩) l.length cap, .int .i64 (k0 : Int)] w fun e w' => e = .returned (.int .i64 (endN k0 l : Int)) ∧ TreeOwn w' base (.slice (some ⟨g, 0, none⟩) l.length cap) (markN k0 l) ∧ Twixt base top w w' := by
  have HO := hide hO
  have HP := hide hp
  have HU := hide hU
  have HML : Hid ((markN k0 l).length = l.length) := ⟨markN_len k0 l⟩
  have HGb : Hid (base ≤ g ∧ g < top) := ⟨⟨(hO.row.lt g rfl).1, hU.1 g rfl⟩⟩
  clear hO hp hU
  go_enter Try.func69, Try.ntmps69
  go_wp2
  go_loopw [1, 5] (fun kv i wr => ∃ j : Nat, j ≤ l.length ∧ i = .int .i64 j ∧ kv = .int .i64 (endN k0 (l.take j) : Int) ∧ TreeOwn wr base (.slice (some ⟨g, 0, none⟩) l.length cap) (mixG (markN k0 l) l j) ∧ Twixt base top w wr) (fun _ i _ => l.length - (intOf i).toNat)
  case atStart => exact ⟨0, by omega, rfl, rfl, by rw [mixG_zero]; exact HO.out, Twixt.refl _ _ _⟩
  case round =>
    obtain ⟨j, hj, rfl, rfl, hR, hg⟩ := hrel
    have HG := hide hg
    clear hg
    obtain ⟨K, hK⟩ : ∃ K, endN k0 (l.take j) = K := ⟨_, rfl⟩
    have HK := hide hK
    have hK2 : K ≤ 2200000000000 := by
      have := endN_le k0 (l.take j) (fun n hn => HP.out n (List.mem_of_mem_take hn))
      rw [List.length_take] at this
      omega
    have hK0 : 0 < K := by have := endN_ge k0 (l.take j); omega
    rw [hK]
    clear hK
    have HL : Hid ((mixG (markN k0 l) l j).length = l.length) := ⟨mixG_len HML.out hj⟩
    by_cases h : j < l.length
    · have hi0 : (0 : Int) ≤ (j : Int) := by omega
      have hi1 : (j : Int) < (l.length : Int) := by omega
      obtain ⟨d, hd⟩ : ∃ d, mixG (markN k0 l) l j = d := ⟨_, rfl⟩
      obtain ⟨n, hn⟩ : ∃ n, l[j] = n := ⟨_, rfl⟩
      have hdl : d.length = l.length := by rw [← hd]; exact HL.out
      have hjd : j < d.length := by omega
      have hdj : d[j] = n := by subst hd; rw [mixG_get HML.out h, hn]
      have hnp : n.props.length ≤ 1048576 := by rw [← hn]; exact HP.out _ (List.getElem_mem h)
      rw [hd] at hR
      have HD := hide hd
      have HN := hide hn
      have HDJ := hide hdj
      have hR' : TreeOwn wr base (.slice (some ⟨g, 0, none⟩) d.length cap) d := by rw [hdl]; exact hR
      -- the stores, one by one
      have T1 := hR'.field hjd (f := 0) (by omega) (.int .i64 (K : Int)) ⟨(K : Int), n.parent, n.name, n.props, n.pao, n.pcap⟩ (by rw [hdj]; rfl) (by rw [hdj]) (by rw [hdj]) (by rw [hdj])
      have T2 := T1.field (j := j) (by rw [List.length_set]; exact hjd) (f := 1) (by omega) (.int .i64 ((K : Int) + 1)) ⟨(K : Int), (K : Int) + 1, n.name, n.props, n.pao, n.pcap⟩ (by rw [List.getElem_set_self]; rfl) (by rw [List.getElem_set_self]) (by rw [List.getElem_set_self]) (by rw [List.getElem_set_self])
      rw [List.set_set, List.length_set, hdl] at T2
      have HT2 : Hid (TreeOwn ((wr.setCell ⟨g, j * 4, none⟩ (.int .i64 (K : Int))).setCell ⟨g, j * 4 + 1, none⟩ (.int .i64 ((K : Int) + 1))) base (.slice (some ⟨g, 0, none⟩) l.length cap) (d.set j ⟨(K : Int), (K : Int) + 1, n.name, n.props, n.pao, n.pcap⟩)) := ⟨T2⟩
      have HG2 : Hid (Twixt base top w ((wr.setCell ⟨g, j * 4, none⟩ (.int .i64 (K : Int))).setCell ⟨g, j * 4 + 1, none⟩ (.int .i64 ((K : Int) + 1)))) := ⟨(HG.out.set HGb.out.1 HGb.out.2 _ _).set HGb.out.1 HGb.out.2 _ _⟩
      obtain ⟨c0, c1, c2, c3⟩ := nod_cells hR hjd
      rw [hdj] at c0 c1 c2 c3
      have f0 := own_free hR.row (j * 4)
      have f1 := own_free hR.row (j * 4 + 1)
      have hT : ∀ w, Calls Try.prog 50 #[.int .i64 ((K : Int) + 1 + 1)] w fun e w' => e = .returned (.string (mt (K + 2))) ∧ Below w.heap.size w w' := fun w => by
        rw [show (K : Int) + 1 + 1 = ((K + 2 : Nat) : Int) by omega]
        exact markText_any (K + 2) (by omega) (by omega) w
      clear T1 T2 hR hR' hd hn hdj
      go_wp2_with (first | (go_at_call 50; refine (hT _).mono ?_; rintro e w1 ⟨rfl, hb1⟩; have ht3 := HT2.out.stays hb1; have HG3 : Hid (Twixt base top w w1) := ⟨HG2.out.trans (Twixt.of hb1)⟩; obtain ⟨d0, d1, d2, d3⟩ := nod_cells ht3 (j := j) (by rw [List.length_set]; exact hjd); rw [List.getElem_set_self] at d0 d1 d2 d3; have g2 := own_free ht3.row (j * 4 + 2); have ht4 := TreeOwn.field (cap := cap) (by rw [List.length_set, hdl]; exact ht3) (j := j) (by rw [List.length_set]; exact hjd) (f := 2) (by omega) (.string (mt (K + 2))) ⟨(K : Int), (K : Int) + 1, mt (K + 2), n.props, n.pao, n.pcap⟩ (by rw [List.getElem_set_self]; rfl) (by rw [List.getElem_set_self]) (by rw [List.getElem_set_self]) (by rw [List.getElem_set_self]); rw [List.set_set, List.length_set, hdl] at ht4; have HT4 := hide ht4; have HG4 := hide (HG3.out.set HGb.out.1 HGb.out.2 (j * 4 + 2) (.string (mt (K + 2)))); have HX4 : Hid ((w1.setCell ⟨g, j * 4 + 2, none⟩ (.string (mt (K + 2)))).ownsRow base 118 2 (.slice n.pao n.props.length n.pcap) n.props.length (flatG PropV.cells n.props)) := ⟨ht4.props ⟨(K : Int), (K : Int) + 1, mt (K + 2), n.props, n.pao, n.pcap⟩ (List.mem_set hjd _)⟩; clear hT ht3 ht4 hb1 c0 c1 c2 c3 f0 f1) | (go_at_call 105; have hmp := markPropS_any n.props n.pao n.pcap base (K + 3) (w1.setCell ⟨g, j * 4 + 2, none⟩ (.string (mt (K + 2)))) hnp (by omega) (by omega) HX4.out; rw [show ((K + 3 : Nat) : Int) = (K : Int) + 1 + 1 + 1 by omega] at hmp; refine hmp.mono ?_; rintro e w2 ⟨rfl, ho2, hg2⟩; have HO2 := hide ho2; have HGr := hide hg2; clear hmp ho2 hg2 d0 d1 d2 d3 g2))
      have T5 := TreeOwn.turned (cap := cap) (w' := w2) (by rw [List.length_set, hdl]; exact HT4.out) (j := j) (by rw [List.length_set]; exact hjd) ⟨(K : Int), (K : Int) + 1, mt (K + 2), n.props, n.pao, n.pcap⟩ (by rw [List.getElem_set_self]) (markP (K + 3) n.props.length) (markP_len _ _) HGr.out HO2.out
      rw [List.set_set, List.length_set, hdl] at T5
      have hmx : d.set j ⟨(K : Int), (K : Int) + 1, mt (K + 2), markP (K + 3) n.props.length, n.pao, n.pcap⟩ = mixG (markN k0 l) l (j + 1) := by
        have e := mixG_set HML.out h (by rw [HML.out]; exact h)
        rw [markN_get (by rw [HML.out]; exact h) h, HK.out, HN.out, HD.out] at e
        exact e
      have HT5 : Hid (TreeOwn w2 base (.slice (some ⟨g, 0, none⟩) l.length cap) (mixG (markN k0 l) l (j + 1))) := ⟨by rw [← hmx]; exact T5⟩
      have HEn : Hid (endN k0 (l.take (j + 1)) = K + 3 + 2 * n.props.length) := ⟨by rw [endN_take h, HK.out, HN.out]⟩
      have HG5 : Hid (Twixt base top w w2) := ⟨HG4.out.trans (Twixt.grown HGr.out (fun b e => by
        refine ⟨(HX4.out.lt b e).1, ?_⟩
        cases hpa : n.pao with
        | none => rw [hpa] at e; cases e
        | some x =>
          rw [hpa] at e
          have e2 : x.block = b := Option.some.inj e
          rw [← e2]
          exact HU.out.2 n (by rw [← HN.out]; exact List.getElem_mem h) x hpa))⟩
      clear T5 hmx
      go_roundw
      case rel =>
        refine ⟨j + 1, by omega, by go_num, ?_, HT5.out, HG5.out⟩
        have := HEn.out
        refine congrArg (Value.int .i64) ?_
        omega
      case measure => simp [intOf]; omega
    · obtain rfl : j = l.length := by omega
      have HF : Hid (endN k0 l = K) := ⟨by have := HK.out; rwa [List.take_length] at this⟩
      go_wp2
      go_ret
      exact ⟨by rw [HF.out]; rfl, by have := hR; rwa [mixG_all HML.out] at this, HG.out⟩
end Go.Proofs.Ytcpgkalafkhlgae.OpR
namespace Go.Proofs.Ytcpgkalafkhlgae.OpR
open Go.ChangeShapes Go.WideShapes Go.ChangeAt Go.RowKit
set_option linter.unusedVariables false

set_option maxRecDepth 100000 in
theorem markNodeS_none (k0 : Nat) (w : World) (hk2 : k0 ≤ 1048576) :
    Calls Try.prog 69 #[.slice none 0 0, .int .i64 (k0 : Int)] w fun e w' => e = .returned (.int .i64 (k0 : Int)) ∧ w = w' := by
  go_enter Try.func69, Try.ntmps69
  go_wp2
  go_loopw [1, 5] (fun kv i wr => i = .int .i64 0 ∧ kv = .int .i64 (k0 : Int) ∧ wr = w) (fun _ i _ => 0)
  case atStart => exact ⟨rfl, rfl, rfl⟩
  case round =>
    obtain ⟨rfl, rfl, rfl⟩ := hrel
    go_wp2
    go_ret
    exact ⟨rfl, rfl⟩
theorem markNodeS_any (l : List NodG) (ao : Option Addr) (cap base top k0 : Nat) (w : World) (hl : l.length ≤ 1048576) (hp : ∀ n ∈ l, n.props.length ≤ 1048576) (hk : 0 < k0) (hk2 : k0 ≤ 1048576) (hO : TreeOwn w base (.slice ao l.length cap) l) (hU : Under top (.slice ao l.length cap) l) :
    Calls Try.prog 69 #[.slice ao l.length cap, .int .i64 (k0 : Int)] w fun e w' => e = .returned (.int .i64 (endN k0 l : Int)) ∧ TreeOwn w' base (.slice ao l.length cap) (markN k0 l) ∧ Twixt base top w w' := by
  rcases hO.row.2 with ⟨e, hn⟩ | ⟨g, cap', cur, e, hb, hg, h1, h2, h3, h4⟩
  · obtain rfl : l = [] := List.eq_nil_of_length_eq_zero hn
    simp only [Value.slice.injEq] at e
    obtain ⟨rfl, _, rfl⟩ := e
    refine (markNodeS_none k0 w hk2).mono ?_
    rintro e w' ⟨rfl, rfl⟩
    exact ⟨rfl, hO, Twixt.refl _ _ _⟩
  · simp only [Value.slice.injEq] at e
    obtain ⟨rfl, _, rfl⟩ := e
    exact markNodeS_some l g cap base top k0 w hl hp hk hk2 hO hU
set_option maxRecDepth 100000 in
set_option maxHeartbeats 1000000 in
theorem markTree_any (l : List NodG) (ao : Option Addr) (cap base top k0 : Nat) (w : World) (hl : l.length ≤ 1048576) (hp : ∀ n ∈ l, n.props.length ≤ 1048576) (hk : 0 < k0) (hk2 : k0 ≤ 1048576) (hO : TreeOwn w base (.slice ao l.length cap) l) (hU : Under top (.slice ao l.length cap) l) :
    Calls Try.prog 29 #[.agg #[.slice ao l.length cap], .int .i64 (k0 : Int)] w fun e w' => e = .returned (.int .i64 (endN k0 l : Int)) ∧ TreeOwn w' base (.slice ao l.length cap) (markN k0 l) ∧ Twixt base top w w' := by
  have hmk := fun W (hW : Below w.heap.size w W) => markNodeS_any l ao cap base top k0 W hl hp hk hk2 (hO.stays hW) hU
  have HMK := hide hmk
  have H1 := hide (Box1.start w (.slice ao l.length cap) 43)
  have hE : endN k0 l ≤ 2200000000000 := by have := endN_le k0 l hp; omega
  clear hmk hO hU hp
  go_enter Try.func29, Try.ntmps29
  go_wp2_with (first | (go_at_call 69; refine (HMK.out _ H1.out.below).mono ?_; rintro e w1 ⟨rfl, ht1, hg1⟩; have HT := hide ht1; have HG := hide hg1; clear ht1 hg1))
  go_ret
  exact ⟨rfl, HT.out, (Twixt.of H1.out.below).trans HG.out⟩

set_option maxRecDepth 100000 in
set_option maxHeartbeats 1000000 in
theorem heldNodeS_any (l : List NodG) (k0 cap : Nat) (ao : Option Addr) (w : World) (hl : l.length ≤ 1048576) (hp : ∀ n ∈ l, n.props.length ≤ 1048576) (hk : 0 < k0) (hk2 : k0 ≤ 1048576) (hA : NodesAt w ao (markN k0 l)) :
    Calls Try.prog 70 #[.slice ao l.length cap, .int .i64 (k0 : Int)] w fun e w' => e = .returned (.int .i64 (endN k0 l : Int)) ∧ Below w.heap.size w w' := by
  have HA := hide hA
  have HP := hide hp
  clear hA hp
  go_enter Try.func70, Try.ntmps70
  go_wp2
  go_loopw [1, 5] (fun kv i wr => ∃ j : Nat, j ≤ l.length ∧ i = .int .i64 j ∧ kv = .int .i64 (endN k0 (l.take j) : Int) ∧ Below w.heap.size w wr) (fun _ i _ => l.length - (intOf i).toNat)
  case atStart => exact ⟨0, by omega, rfl, rfl, Below.refl _ _⟩
  case round =>
    obtain ⟨j, hj, rfl, rfl, hb⟩ := hrel
    obtain ⟨K, hK⟩ : ∃ K, endN k0 (l.take j) = K := ⟨_, rfl⟩
    have HK := hide hK
    have hK2 : K ≤ 2200000000000 := by
      have := endN_le k0 (l.take j) (fun n hn => HP.out n (List.mem_of_mem_take hn))
      rw [List.length_take] at this
      omega
    have hK0 : 0 < K := by have := endN_ge k0 (l.take j); omega
    rw [hK]
    clear hK
    by_cases h : j < l.length
    · have hi0 : (0 : Int) ≤ (j : Int) := by omega
      have hi1 : (j : Int) < (l.length : Int) := by omega
      obtain ⟨n, hn⟩ : ∃ n, l[j] = n := ⟨_, rfl⟩
      have hnp : n.props.length ≤ 1048576 := by rw [← hn]; exact HP.out _ (List.getElem_mem h)
      have HEn : Hid (endN k0 (l.take (j + 1)) = K + 3 + 2 * n.props.length) := ⟨by rw [endN_take h, HK.out, hn]⟩
      obtain ⟨b, off, rfl, hlt, ho, hP⟩ := HA.out j (by rw [markN_len]; exact h)
      rw [markN_get (by rw [markN_len]; exact h) h, HK.out, hn] at ho hP
      have HO := hide ho
      have HPr : Hid (PropsAt w n.pao (markP (K + 3) n.props.length)) := ⟨hP⟩
      obtain ⟨c0, c1, c2, c3⟩ := ho.block (w' := wr) (hb.block b hlt)
      simp only [mark1, markP_len] at c0 c1 c2 c3
      clear ho hP hn
      have hT : ∀ w, Calls Try.prog 50 #[.int .i64 ((K : Int) + 1 + 1)] w fun e w' => e = .returned (.string (mt (K + 2))) ∧ Below w.heap.size w w' := fun w => by
        rw [show (K : Int) + 1 + 1 = ((K + 2 : Nat) : Int) by omega]
        exact markText_any (K + 2) (by omega) (by omega) w
      have hH : ∀ W, Below w.heap.size w W → Calls Try.prog 106 #[.slice n.pao n.props.length n.pcap, .int .i64 ((K : Int) + 1 + 1 + 1)] W fun e w' => e = .returned (.int .i64 ((K + 3 + 2 * n.props.length : Nat) : Int)) ∧ Below W.heap.size W w' := fun W hW => by
        rw [show (K : Int) + 1 + 1 + 1 = ((K + 3 : Nat) : Int) by omega]
        exact heldPropS_any n.props.length (K + 3) n.pcap n.pao W hnp (by omega) (by omega) (HPr.out.stays hW)
      have HH := hide hH
      clear hH
      go_wp2
      go_region_with (go_at_call 50; refine (hT wr.drew).mono ?_; rintro e w1 ⟨rfl, hb1⟩; have hB1 := hb.drew.trans (hb1.mono hb.size); obtain ⟨d0, d1, d2, d3⟩ := HO.out.block (w' := w1) (hB1.block b hlt); simp only [mark1, markP_len] at d0 d1 d2 d3)
      all_goals (
        clear hT c0 c1 c2 c3
        have HB1 := hide hB1
        clear hB1
        go_wp2_with (first | (go_at_call 106; refine (HH.out _ HB1.out).mono ?_; rintro e w2 ⟨rfl, hb2⟩; have HB2 := hide (HB1.out.trans (hb2.mono HB1.out.size)); clear hb2))
        go_roundw
        case rel =>
          refine ⟨j + 1, by omega, by go_num, ?_, HB2.out⟩
          have := HEn.out
          refine congrArg (Value.int .i64) ?_
          omega
        case measure => simp [intOf]; omega)
    · obtain rfl : j = l.length := by omega
      have HF : Hid (endN k0 l = K) := ⟨by have := HK.out; rwa [List.take_length] at this⟩
      go_wp2
      go_ret
      exact ⟨by rw [HF.out]; rfl, hb⟩
set_option maxRecDepth 100000 in
set_option maxHeartbeats 1000000 in
theorem heldTree_any (l : List NodG) (k0 cap : Nat) (ao : Option Addr) (w : World) (hl : l.length ≤ 1048576) (hp : ∀ n ∈ l, n.props.length ≤ 1048576) (hk : 0 < k0) (hk2 : k0 ≤ 1048576) (hA : NodesAt w ao (markN k0 l)) :
    Calls Try.prog 30 #[.agg #[.slice ao l.length cap], .int .i64 (k0 : Int)] w fun e w' => e = .returned (.int .i64 (endN k0 l : Int)) ∧ Below w.heap.size w w' := by
  have hhd := fun W (hW : Below w.heap.size w W) => heldNodeS_any l k0 cap ao W hl hp hk hk2 (hA.stays hW)
  have HHD := hide hhd
  have H1 := hide (Box1.start w (.slice ao l.length cap) 43)
  have hE : endN k0 l ≤ 2200000000000 := by have := endN_le k0 l hp; omega
  obtain ⟨E, hEe⟩ : ∃ E, endN k0 l = E := ⟨_, rfl⟩
  rw [hEe] at hE HHD ⊢
  have hE0 : (0 : Int) ≤ (E : Int) := by omega
  clear hhd hA hp hEe
  go_enter Try.func30, Try.ntmps30
  go_wp2_with (first | (go_at_call 70; refine (HHD.out _ H1.out.below).mono ?_; rintro e w1 ⟨rfl, hb1⟩))
  go_ret
  exact ⟨rfl, (H1.out.step hb1).below⟩
end Go.Proofs.Ytcpgkalafkhlgae.OpR
namespace Go.Proofs.Ytcpgkalafkhlgae.OpR
open Go.ChangeShapes Go.WideShapes Go.ChangeAt Go.RowKit
set_option linter.unusedVariables false

/-- How large trees are that the harness compares and marks. -/
def SzT (l : List NodG) : Prop := l.length ≤ 1048576 ∧ ∀ n ∈ l, n.props.length ≤ 1048576
theorem SzT.alike {l d : List NodG} (h : SzT l) (hb : d.map NodG.bare = l.map NodG.bare) : SzT d :=
  ⟨by rw [bare_len hb]; exact h.1, fun n hn => by obtain ⟨m, hm, e⟩ := bare_mem hb hn; rw [(bare_eq e).2.2.2]; exact h.2 m hm⟩
theorem right_szT {l : List NodG} (h : TreeR l) : SzT l :=
  ⟨by have := h.1; omega, fun n hn => by have := (nodOk_parts (h.2.2 n hn)).props.1; omega⟩
theorem treeDo_szT {l : List NodG} (h : SzT l) (o : OpV) : SzT (treeDo l o) := by
  unfold treeDo
  split
  · rename_i hc
    rw [Bool.and_eq_true] at hc
    exact right_szT (tdo_right ((treeR_iff l).1 hc.1) (opOk_of hc.2) _ _)
  · exact h
theorem treeOf_szT (l : List OpV) : SzT (treeOf l) := by
  unfold treeOf
  split
  · rename_i hc
    have hR := (log_iff l).1 hc
    have := right_szT (tof_right hR.1 l.length (Nat.le_refl _))
    rwa [List.take_length] at this
  · exact ⟨by simp, fun n hn => absurd hn (by simp)⟩
/-- Variables. -/
def VarsAt (c : World) (bs : List (Nat × Obj)) : Prop := ∀ p ∈ bs, c.heap[p.1]? = some p.2
structure St (w c : World) (bs : List (Nat × Obj)) : Prop where
  below : Below w.heap.size w c
  vars : VarsAt c bs
theorem St.step {w c c' : World} {bs : List (Nat × Obj)} (h : St w c bs) (hb : Below c.heap.size c c') : St w c' bs :=
  ⟨h.below.trans (hb.mono h.below.size), fun p hp => (hb.block p.1 (Array.getElem?_eq_some_iff.1 (h.vars p hp)).1).trans (h.vars p hp)⟩
theorem St.drew {w c : World} {bs : List (Nat × Obj)} (h : St w c bs) : St w c.drew bs := ⟨h.below.drew, h.vars⟩
theorem St.twixt {w c c' : World} {base top : Nat} {bs : List (Nat × Obj)} (h : St w c bs) (ht : Twixt base top c c') (hb : w.heap.size ≤ base) (hn : ∀ p ∈ bs, p.1 < base ∨ top ≤ p.1) : St w c' bs := by
  have hs := h.below.size
  exact ⟨⟨ht.os.trans h.below.os, ht.tape.trans h.below.tape, ht.output.trans h.below.output, Nat.le_trans hs ht.size, fun k hk => (ht.block k (by omega) (.inl (by omega))).trans (h.below.block k hk)⟩, fun p hp => (ht.block p.1 (Array.getElem?_eq_some_iff.1 (h.vars p hp)).1 (hn p hp)).trans (h.vars p hp)⟩
theorem St.new {w c : World} {bs : List (Nat × Obj)} (h : St w c bs) (o : Obj) : St w (c.alloc o) ((c.heap.size, o) :: bs) :=
  ⟨h.below.alloc h.below.size o, fun p hp => by
    rcases List.mem_cons.1 hp with rfl | hp
    · exact heap_alloc_new c o
    · exact (Below.heap_alloc c o p.1 (Array.getElem?_eq_some_iff.1 (h.vars p hp)).1).trans (h.vars p hp)⟩
theorem St.bare {w c : World} (h : Below w.heap.size w c) : St w c [] := ⟨h, fun p hp => absurd hp (by simp)⟩
theorem St.one {w c : World} {bs : List (Nat × Obj)} (h : St w c bs) {b : Nat} {v : Value} {T : TypeId} (hm : (b, Obj.cells #[v] T) ∈ bs) : c.cell? ⟨b, 0, none⟩ = some v := (cells1 (h.vars _ hm)).1
theorem St.lt {w c : World} {bs : List (Nat × Obj)} (h : St w c bs) {p : Nat × Obj} (hm : p ∈ bs) : p.1 < c.heap.size := (Array.getElem?_eq_some_iff.1 (h.vars p hm)).1
theorem St.op {w c : World} {bs : List (Nat × Obj)} (h : St w c bs) {b : Nat} {o : OpV} {T : TypeId} (hm : (b, Obj.cells #[.int .i64 o.time, .int .i64 o.repl, .int .i64 o.kind, .int .i64 o.node, .int .i64 o.parent, .string o.name, .string o.value] T) ∈ bs) : c.cell? ⟨b, 0, none⟩ = some (.int .i64 o.time) ∧ c.cell? ⟨b, 1, none⟩ = some (.int .i64 o.repl) ∧ c.cell? ⟨b, 2, none⟩ = some (.int .i64 o.kind) ∧ c.cell? ⟨b, 3, none⟩ = some (.int .i64 o.node) ∧ c.cell? ⟨b, 4, none⟩ = some (.int .i64 o.parent) ∧ c.cell? ⟨b, 5, none⟩ = some (.string o.name) ∧ c.cell? ⟨b, 6, none⟩ = some (.string o.value) := by
  have e := h.vars _ hm
  refine ⟨?_, ?_, ?_, ?_, ?_, ?_, ?_⟩ <;> simp [World.cell?, e]

theorem St.head {w c : World} {b : Nat} {o : Obj} {bs : List (Nat × Obj)} (h : St w c ((b, o) :: bs)) : c.heap[b]? = some o := h.vars (b, o) (by simp)
theorem St.tail {w c : World} {p : Nat × Obj} {bs : List (Nat × Obj)} (h : St w c (p :: bs)) : St w c bs := ⟨h.below, fun q hq => h.vars q (by simp [hq])⟩
theorem St.put {w c : World} {b : Nat} {u v : Value} {T : TypeId} {bs : List (Nat × Obj)} (h : St w c ((b, Obj.cells #[u] T) :: bs)) (hb : w.heap.size ≤ b) (hn : ∀ p ∈ bs, p.1 ≠ b) : St w (c.setCell ⟨b, 0, none⟩ v) ((b, Obj.cells #[v] T) :: bs) :=
  ⟨h.below.setCell (p := ⟨b, 0, none⟩) hb v, fun q hq => by
    rcases List.mem_cons.1 hq with rfl | hq
    · exact set_block h.head 0 v
    · exact (Below.heap_setCell _ _ _ _ (hn q hq)).trans (h.vars q (by simp [hq]))⟩
theorem skipB {c c' : World} {o : Obj} (h : Below (c.alloc o).heap.size (c.alloc o) c') : Below c.heap.size c c' := ((Below.refl _ c).alloc (Nat.le_refl _) o).trans (h.mono (by simp))
theorem drewB {c c' : World} (h : Below c.drew.heap.size c.drew c') : Below c.heap.size c c' := ((Below.refl _ c).drew).trans (h.mono (Nat.le_refl _))
theorem skipD {c c' : World} {o : Obj} (h : Below (c.alloc o).drew.heap.size (c.alloc o).drew c') : Below c.heap.size c c' := skipB (drewB h)
theorem below_put {B : Nat} {a c : World} {b : Nat} (h : Below B a c) (hb : B ≤ b) (v : Value) : Below B a (c.setCell ⟨b, 0, none⟩ v) := h.setCell (p := ⟨b, 0, none⟩) hb v
/-- A tree that is looked at alone, all of it below N. -/
structure Lies (N : Nat) (c : World) (ao : Option Addr) (l : List NodG) : Prop where
  at_ : NodesAt c ao l
  low : ∀ j (hj : j < l.length) a, ao = some a → a.block < N
  plow : ∀ n ∈ l, n.props ≠ [] → ∀ a, n.pao = some a → a.block < N
theorem Lies.of {c : World} {ao : Option Addr} {l : List NodG} (h : NodesAt c ao l) : Lies c.heap.size c ao l :=
  ⟨h, fun j hj a ha => by obtain ⟨b, off, e, hlt, _⟩ := h j hj; rw [ha] at e; cases e; exact hlt, fun n hn hne a ha => by
    obtain ⟨b, off, e, hlt, _⟩ := h.props n hn 0 (List.length_pos_iff.2 hne)
    rw [ha] at e
    cases e
    exact hlt⟩
theorem Lies.step {N : Nat} {c c' : World} {ao : Option Addr} {l : List NodG} (h : Lies N c ao l) (hb : Below c.heap.size c c') : Lies N c' ao l := ⟨h.at_.stays hb, h.low, h.plow⟩
theorem Lies.drew {N : Nat} {c : World} {ao : Option Addr} {l : List NodG} (h : Lies N c ao l) : Lies N c.drew ao l := h.step (Below.refl _ _).drew
theorem Lies.twixt {N base top : Nat} {c c' : World} {ao : Option Addr} {l : List NodG} (h : Lies N c ao l) (ht : Twixt base top c c') (hN : N ≤ base) : Lies N c' ao l := by
  refine ⟨fun j hj => ?_, h.low, h.plow⟩
  obtain ⟨b, off, e, hlt, ho, hp⟩ := h.at_ j hj
  have hbN : b < N := h.low j hj _ e
  refine ⟨b, off, e, Nat.lt_of_lt_of_le hlt ht.size, ho.block (ht.block b hlt (.inl (by omega))), fun i hi => ?_⟩
  obtain ⟨b2, off2, e2, hlt2, ho2⟩ := hp i hi
  have hb2 : b2 < N := h.plow l[j] (List.getElem_mem hj) (fun e => by rw [e] at hi; simp at hi) _ e2
  exact ⟨b2, off2, e2, Nat.lt_of_lt_of_le hlt2 ht.size, ho2.block (ht.block b2 hlt2 (.inl (by omega)))⟩
theorem Lies.put {N b : Nat} {c : World} {ao : Option Addr} {l : List NodG} (h : Lies N c ao l) (hb : ∀ j (hj : j < l.length) a, ao = some a → a.block ≠ b) (hp : ∀ n ∈ l, n.props ≠ [] → ∀ a, n.pao = some a → a.block ≠ b) (v : Value) : Lies N (c.setCell ⟨b, 0, none⟩ v) ao l := by
  refine ⟨fun j hj => ?_, h.low, h.plow⟩
  obtain ⟨b1, off, e, hlt, ho, hps⟩ := h.at_ j hj
  refine ⟨b1, off, e, by simpa [World.setCell] using hlt, ho.block (Below.heap_setCell _ _ _ _ (hb j hj _ e)), fun i hi => ?_⟩
  obtain ⟨b2, off2, e2, hlt2, ho2⟩ := hps i hi
  exact ⟨b2, off2, e2, by simpa [World.setCell] using hlt2, ho2.block (Below.heap_setCell _ _ _ _ (hp l[j] (List.getElem_mem hj) (fun e => by rw [e] at hi; simp at hi) _ e2))⟩
theorem Lies.over {N b : Nat} {c : World} {ao : Option Addr} {l : List NodG} (h : Lies N c ao l) (hb : N ≤ b) (v : Value) : Lies N (c.setCell ⟨b, 0, none⟩ v) ao l :=
  h.put (fun j hj a ha => by have := h.low j hj a ha; omega) (fun n hn hne a ha => by have := h.plow n hn hne a ha; omega) v
theorem TreeOwn.over {w : World} {base top b : Nat} {v : Value} {l : List NodG} (h : TreeOwn w base v l) (hU : Under top v l) (hb : top ≤ b) (u : Value) : TreeOwn (w.setCell ⟨b, 0, none⟩ u) base v l := by
  have hg : w.grownBy (w.setCell ⟨b, 0, none⟩ u) (some b) := ⟨rfl, rfl, rfl, by simp [World.setCell], fun k hk hne => Below.heap_setCell _ _ _ _ (fun e => hne (by rw [e]))⟩
  refine ⟨h.row.kept hg (.inr (fun e => by have := hU.1 b e; omega)), fun n hn => (h.props n hn).kept hg ?_, h.apart, h.off⟩
  cases hp : n.pao with
  | none => exact .inl rfl
  | some x => exact .inr (fun e => by have := hU.2 n hn x hp; have e2 : x.block = b := Option.some.inj e; omega)
theorem owns_keeps {w w' : World} {base : Nat} {e : TypeId} {size : Nat} {v : Value} {n : Nat} {xs : List Value} (h : w.ownsRow base e size v n xs) (he : ∀ g, base ≤ g → g < w.heap.size → w'.heap[g]? = w.heap[g]?) : w'.ownsRow base e size v n xs :=
  ⟨h.1, h.2.imp id fun ⟨g, cap, cur, e1, hb, hg, r⟩ => ⟨g, cap, cur, e1, hb, (he g hb (Array.getElem?_eq_some_iff.1 hg).1).trans hg, r⟩⟩
theorem TreeOwn.keeps {w w' : World} {base : Nat} {v : Value} {l : List NodG} (h : TreeOwn w base v l) (he : ∀ g, base ≤ g → g < w.heap.size → w'.heap[g]? = w.heap[g]?) : TreeOwn w' base v l :=
  ⟨owns_keeps h.row he, fun n hn => owns_keeps (h.props n hn) he, h.apart, h.off⟩
theorem TreeOwn.twixt {w w' : World} {b base top : Nat} {v : Value} {l : List NodG} (h : TreeOwn w b v l) (ht : Twixt base top w w') (hb : top ≤ b) : TreeOwn w' b v l := h.keeps (fun g hg hl => ht.block g hl (.inr (by omega)))
end Go.Proofs.Ytcpgkalafkhlgae.OpR
namespace Go.Proofs.Ytcpgkalafkhlgae.OpR
open Go.ChangeShapes Go.WideShapes Go.ChangeAt Go.RowKit
set_option linter.unusedVariables false

set_option maxRecDepth 100000 in
set_option maxHeartbeats 2000000 in
theorem law_treeDo (w : World) (ao : Option Addr) (cap : Nat) (l : List NodG) (o : OpV) (hC : CameTree w ao l) (hz : o.name.size ≤ maxLen ∧ o.value.size ≤ maxLen) :
    Calls Try.prog 6 #[.agg #[.slice ao l.length cap], o.agg] w fun e w' => e = .returned (.bool true) ∧ Below w.heap.size w w' := by
  obtain ⟨hl, hA, hS, hG⟩ := hC
  have hsz := fun W (hW : Below w.heap.size w W) => szTree_any l ao cap W hl (hA.stays hW) hS
  have hso := fun m W (h0 : 0 ≤ m) (h1 : m ≤ 1048576) => szOp_any o m W h0 h1 hz.1 hz.2
  have hto := toOp_any o
  unfold OpV.agg at *
  have HSZ := hide hsz
  have HSO := hide hso
  have HTO := hide hto
  have HA := hide hA
  have HG := hide hG
  have HZ := hide hz
  have HV0 : Hid (St w ((w.alloc (.cells #[.slice ao l.length cap] 38)).alloc (.cells #[.int .i64 o.time, .int .i64 o.repl, .int .i64 o.kind, .int .i64 o.node, .int .i64 o.parent, .string o.name, .string o.value] 48)) [(w.heap.size + 1, Obj.cells #[.int .i64 o.time, .int .i64 o.repl, .int .i64 o.kind, .int .i64 o.node, .int .i64 o.parent, .string o.name, .string o.value] 48), (w.heap.size, Obj.cells #[.slice ao l.length cap] 38)]) := ⟨by simpa using ((St.bare (Below.refl w.heap.size w)).new (.cells #[.slice ao l.length cap] 38)).new (.cells #[.int .i64 o.time, .int .i64 o.repl, .int .i64 o.kind, .int .i64 o.node, .int .i64 o.parent, .string o.name, .string o.value] 48)⟩
  clear hsz hso hto hA hS hG hl hz
  go_enter Try.func6, Try.ntmps6
  go_wp2_with (first | (go_at_call 20; refine (HSZ.out _ HV0.out.below).mono ?_; rintro e w1 ⟨m, rfl, hm0, hm1, hm2, hb1⟩; have HM := hide hm2; have HV1 := hide (HV0.out.step hb1); clear hm2 hb1; obtain ⟨p0, p1, p2, p3, p4, p5, p6⟩ := HV1.out.op (b := w.heap.size + 1) (o := o) (T := 48) (by simp)) | (go_at_call 25; refine (HSO.out m _ (by omega) hm0).mono ?_; rintro e w2 ⟨k2, rfl, hn0, hn1, hn2, hb2⟩; have HN := hide hn2; have HV2 := hide (HV1.out.step hb2); clear hn2 hb2 p0 p1 p2 p3 p4 p5 p6))
  · go_ret
    exact ⟨rfl, HV1.out.below⟩
  · go_ret
    exact ⟨rfl, HV2.out.below⟩
  obtain ⟨hl2, hs2⟩ := HM.out (by omega)
  have HS2 := hide hs2
  have HNs := hide (HN.out (by omega))
  have Hl2 := hide hl2
  have HZl : Hid (SzT l) := ⟨⟨hl2, fun n hn => (hs2 n hn).2.1⟩⟩
  have HOs : Hid (o.name.size ≤ maxLen ∧ o.value.size ≤ maxLen) := HZ
  clear HM HN hs2
  have hS8 : ∀ W, St w W [(w.heap.size + 1, Obj.cells #[.int .i64 o.time, .int .i64 o.repl, .int .i64 o.kind, .int .i64 o.node, .int .i64 o.parent, .string o.name, .string o.value] 48), (w.heap.size, Obj.cells #[.slice ao l.length cap] 38)] → W.cell? ⟨w.heap.size, 0, none⟩ = some (.slice ao l.length cap) ∧ W.cell? ⟨w.heap.size + 1, 0, none⟩ = some (.int .i64 o.time) ∧ W.cell? ⟨w.heap.size + 1, 1, none⟩ = some (.int .i64 o.repl) ∧ W.cell? ⟨w.heap.size + 1, 2, none⟩ = some (.int .i64 o.kind) ∧ W.cell? ⟨w.heap.size + 1, 3, none⟩ = some (.int .i64 o.node) ∧ W.cell? ⟨w.heap.size + 1, 4, none⟩ = some (.int .i64 o.parent) ∧ W.cell? ⟨w.heap.size + 1, 5, none⟩ = some (.string o.name) ∧ W.cell? ⟨w.heap.size + 1, 6, none⟩ = some (.string o.value) := fun W hW => ⟨hW.one (b := w.heap.size) (v := .slice ao l.length cap) (T := 38) (by simp), hW.op (b := w.heap.size + 1) (o := o) (T := 48) (by simp)⟩
  have HS8 := hide hS8
  clear hS8
  go_cut [6] from 23 (fun p wx => ∃ (b : Nat) (a3 : Option Addr) (c3 : Nat) (d3 : List NodG), p = .pointer (some ⟨b, 0, none⟩) ∧ w.heap.size + 1 < b ∧ d3.map NodG.bare = (treeDo l o).map NodG.bare ∧ Lies wx.heap.size wx a3 d3 ∧ St w wx ((b, Obj.cells #[.slice a3 d3.length c3] 43) :: [(w.heap.size + 1, Obj.cells #[.int .i64 o.time, .int .i64 o.repl, .int .i64 o.kind, .int .i64 o.node, .int .i64 o.parent, .string o.name, .string o.value] 48), (w.heap.size, Obj.cells #[.slice ao l.length cap] 38)]))
  case first =>
    have HR0 := hide HV2.out.drew
    have HR0a := hide (HV2.out.new (.cells #[.slice none 0 0] 43)).drew
    have hw2 := HV2.out.lt (p := (w.heap.size + 1, Obj.cells #[.int .i64 o.time, .int .i64 o.repl, .int .i64 o.kind, .int .i64 o.node, .int .i64 o.parent, .string o.name, .string o.value] 48)) (by simp)
    have hd0 := HS8.out _ HR0.out
    have hd1 := HS8.out _ HR0a.out.tail
    go_region_held3 (fun W => W.cell? ⟨w.heap.size, 0, none⟩ = some (.slice ao l.length cap) ∧ W.cell? ⟨w.heap.size + 1, 0, none⟩ = some (.int .i64 o.time) ∧ W.cell? ⟨w.heap.size + 1, 1, none⟩ = some (.int .i64 o.repl) ∧ W.cell? ⟨w.heap.size + 1, 2, none⟩ = some (.int .i64 o.kind) ∧ W.cell? ⟨w.heap.size + 1, 3, none⟩ = some (.int .i64 o.node) ∧ W.cell? ⟨w.heap.size + 1, 4, none⟩ = some (.int .i64 o.parent) ∧ W.cell? ⟨w.heap.size + 1, 5, none⟩ = some (.string o.name) ∧ W.cell? ⟨w.heap.size + 1, 6, none⟩ = some (.string o.value)) (first | with_reducible exact hd0 | with_reducible exact hd1 | with_reducible exact hd2 | with_reducible exact hd3 _ | with_reducible exact hd4 | with_reducible exact hd5 _ | with_reducible exact hd6 | with_reducible exact hd7 _ | with_reducible exact hd8) (first | (go_at_call 22; (first | (refine (toTree_any l ao cap w2.drew Hl2.out (HA.out.stays HR0.out.below) HZl.out.2).mono ?_; rintro e w3 ⟨d2, g2, rfl, hx, hbr2, hb3⟩; have hq3 := drewB hb3; have HR1 := hide (HR0.out.step hb3); have HR1t := HR1) | (refine (toTree_any l ao cap (w2.alloc (.cells #[.slice none 0 0] 43)).drew Hl2.out (HA.out.stays HR0a.out.below) HZl.out.2).mono ?_; rintro e w3 ⟨d2, g2, rfl, hx, hbr2, hb3⟩; have hq3 := skipD hb3; have HR1 := hide (HR0a.out.step hb3); have HR1t := hide HR1.out.tail)); have HX3 := hide hx; have HBr := hide hbr2; have hd2 := HS8.out _ HR1t.out; have hd3 := fun (ob : Obj) => HS8.out _ (HR1t.out.step ((Below.refl _ _).alloc (Nat.le_refl _) ob)); have hz3 := hq3.size; clear hx hbr2 hb3 hq3) | (go_at_call 27; refine (HTO.out _).mono ?_; rintro e w4 ⟨rfl, hb4⟩; have hq4 : Below w3.heap.size w3 w4 := (by first | exact hb4 | exact skipB hb4); (first | (have HR2 := hide (HR1.out.step hb4)) | (have HR2 := hide ((HR1.out.new _).step hb4))); have HR2t := hide (HR1t.out.step hq4); have HX4 := hide (HX3.out.stays hq4); have hd4 := HS8.out _ HR2t.out; have hd5 := fun (ob : Obj) => HS8.out _ (HR2t.out.step ((Below.refl _ _).alloc (Nat.le_refl _) ob)); have hz4 := hq4.size; clear hb4 hq4) | (go_at_call 26; (first | (have hdo := sTreeDo_any d2 (some ⟨g2, 0, none⟩) d2.length o w4 (by rw [bare_len HBr.out]; exact Hl2.out) HX4.out.nodesAt (sized_alike HBr.out HS2.out) HOs.out.1 HOs.out.2; unfold OpV.agg at hdo; refine hdo.mono ?_) | (have hdo := sTreeDo_any d2 (some ⟨g2, 0, none⟩) d2.length o _ (by rw [bare_len HBr.out]; exact Hl2.out) (HX4.out.stays ((Below.refl _ _).alloc (Nat.le_refl _) (.cells #[.slice none 0 0] 43))).nodesAt (sized_alike HBr.out HS2.out) HOs.out.1 HOs.out.2; unfold OpV.agg at hdo; refine hdo.mono ?_)); rintro e w5 ⟨v5, d5, rfl, ht5, hd5, hb5⟩; obtain ⟨a5, c5, rfl, _, _⟩ := owns_atN ht5.row; have hq5 : Below w4.heap.size w4 w5 := (by first | exact hb5 | exact skipB hb5); (first | (have HR3 := hide (HR2.out.step hb5)) | (have HR3 := hide ((HR2.out.new _).step hb5))); have HR3t := hide (HR2t.out.step hq5); have HT5 := hide ht5; have HD5 := hide (hd5.trans (treeDo_alike HBr.out o)); have hd6 := HS8.out _ HR3t.out; have hd7 := fun (ob : Obj) => HS8.out _ (HR3t.out.step ((Below.refl _ _).alloc (Nat.le_refl _) ob)); (try (obtain ⟨k0, k1⟩ := cells1 HR3.out.head)); (try (have hd8 := HS8.out _ (HR3.out.put (v := .slice a5 d5.length c5) (by omega) (by simp; omega)).tail)); have hz5 := hq5.size; clear hdo ht5 hd5 hb5 hq5))
    all_goals (go_wp2_with fail)
    all_goals go_meet
    · exact ⟨w5.heap.size, a5, c5, d5, rfl, by omega, HD5.out, Lies.of (HT5.out.stays ((Below.refl _ _).alloc (Nat.le_refl _) _)).nodesAt, HR3.out.new _⟩
    all_goals exact ⟨_, a5, c5, d5, rfl, by omega, HD5.out, Lies.of (HT5.out.moved (fun g hg => Below.heap_setCell _ _ _ _ (by have hbl := (Array.getElem?_eq_some_iff.1 HR2.out.head).1; simp at hg ⊢; omega))).nodesAt, HR3.out.put (by omega) (by simp; omega)⟩
  case rest =>
    obtain ⟨wa, hwa⟩ : ∃ wa, wa = wc := ⟨_, rfl⟩
    subst hwa
    obtain ⟨b, a3, c3, d3, rfl, hb, hd3, hW3, hV3⟩ := hcut
    have HW := hide hW3
    have HV := hide hV3
    have HD3 := hide hd3
    have hc := HV.out.one (b := w.heap.size) (v := .slice ao l.length cap) (T := 38) (by simp)
    clear hd3 hW3 hV3 HV0 HV1 HV2
    go_wp2_with (first | (go_at_call 22; refine (toTree_any l ao cap wa Hl2.out (HA.out.stays HV.out.below) HZl.out.2).mono ?_; rintro e x1 ⟨d4, g4, rfl, hx4, hbr4, hb4⟩; have HVx := hide ((HV.out.step hb4).new (.cells #[.slice (some ⟨g4, 0, none⟩) d4.length d4.length] 43)); have HWx := hide ((HW.out.step hb4).step ((Below.refl _ _).alloc (Nat.le_refl _) (.cells #[.slice (some ⟨g4, 0, none⟩) d4.length d4.length] 43))); have HXx := hide (hx4.stays ((Below.refl _ _).alloc (Nat.le_refl _) (.cells #[.slice (some ⟨g4, 0, none⟩) d4.length d4.length] 43))); have HUx := hide hx4.under; have HBrx := hide hbr4; have hzx := hb4.size; clear hx4 hbr4 hb4 hc))
    obtain ⟨Y, hY⟩ : ∃ Y, x1.alloc (.cells #[.slice (some ⟨g4, 0, none⟩) d4.length d4.length] 43) = Y := ⟨_, rfl⟩
    have HYs : Hid (Y.heap.size = x1.heap.size + 1) := ⟨by rw [← hY]; simp⟩
    rw [hY] at HVx HWx HXx ⊢
    clear hY
    have hbw : b < wa.heap.size := HV.out.lt (p := (b, Obj.cells #[.slice a3 d3.length c3] 43)) (by simp)
    have hwb := HV.out.below.size
    have hS9 : ∀ W, St w W ((x1.heap.size, Obj.cells #[.slice (some ⟨g4, 0, none⟩) d4.length d4.length] 43) :: (b, Obj.cells #[.slice a3 d3.length c3] 43) :: [(w.heap.size + 1, Obj.cells #[.int .i64 o.time, .int .i64 o.repl, .int .i64 o.kind, .int .i64 o.node, .int .i64 o.parent, .string o.name, .string o.value] 48), (w.heap.size, Obj.cells #[.slice ao l.length cap] 38)]) → W.cell? ⟨x1.heap.size, 0, none⟩ = some (.slice (some ⟨g4, 0, none⟩) d4.length d4.length) ∧ W.cell? ⟨w.heap.size + 1, 0, none⟩ = some (.int .i64 o.time) ∧ W.cell? ⟨w.heap.size + 1, 1, none⟩ = some (.int .i64 o.repl) ∧ W.cell? ⟨w.heap.size + 1, 2, none⟩ = some (.int .i64 o.kind) ∧ W.cell? ⟨w.heap.size + 1, 3, none⟩ = some (.int .i64 o.node) ∧ W.cell? ⟨w.heap.size + 1, 4, none⟩ = some (.int .i64 o.parent) ∧ W.cell? ⟨w.heap.size + 1, 5, none⟩ = some (.string o.name) ∧ W.cell? ⟨w.heap.size + 1, 6, none⟩ = some (.string o.value) := fun W hW => ⟨hW.one (b := x1.heap.size) (v := .slice (some ⟨g4, 0, none⟩) d4.length d4.length) (T := 43) (by simp), hW.op (b := w.heap.size + 1) (o := o) (T := 48) (by simp)⟩
    have HS9 := hide hS9
    clear hS9 HS8
    go_cut [8] from 30 (fun p wx => ∃ (e B5 T5 : Nat) (a5 : Option Addr) (c5 : Nat) (d5 : List NodG), p = .pointer (some ⟨e, 0, none⟩) ∧ x1.heap.size < e ∧ x1.heap.size < B5 ∧ (e < B5 ∨ T5 ≤ e) ∧ d5.map NodG.bare = (treeDo l o).map NodG.bare ∧ TreeOwn wx B5 (.slice a5 d5.length c5) d5 ∧ Under T5 (.slice a5 d5.length c5) d5 ∧ TreeOwn wx wa.heap.size (.slice (some ⟨g4, 0, none⟩) d4.length d4.length) d4 ∧ Lies wa.heap.size wx a3 d3 ∧ St w wx ((e, Obj.cells #[.slice a5 d5.length c5] 43) :: (x1.heap.size, Obj.cells #[.slice (some ⟨g4, 0, none⟩) d4.length d4.length] 43) :: (b, Obj.cells #[.slice a3 d3.length c3] 43) :: [(w.heap.size + 1, Obj.cells #[.int .i64 o.time, .int .i64 o.repl, .int .i64 o.kind, .int .i64 o.node, .int .i64 o.parent, .string o.name, .string o.value] 48), (w.heap.size, Obj.cells #[.slice ao l.length cap] 38)]))
    case first =>
      have HR0 := hide HVx.out.drew
      have HR0a := hide (HVx.out.new (.cells #[.slice none 0 0] 43)).drew
      have hd0 := HS9.out _ HR0.out
      have hd1 := HS9.out _ HR0a.out.tail
      go_region_held3 (fun W => W.cell? ⟨x1.heap.size, 0, none⟩ = some (.slice (some ⟨g4, 0, none⟩) d4.length d4.length) ∧ W.cell? ⟨w.heap.size + 1, 0, none⟩ = some (.int .i64 o.time) ∧ W.cell? ⟨w.heap.size + 1, 1, none⟩ = some (.int .i64 o.repl) ∧ W.cell? ⟨w.heap.size + 1, 2, none⟩ = some (.int .i64 o.kind) ∧ W.cell? ⟨w.heap.size + 1, 3, none⟩ = some (.int .i64 o.node) ∧ W.cell? ⟨w.heap.size + 1, 4, none⟩ = some (.int .i64 o.parent) ∧ W.cell? ⟨w.heap.size + 1, 5, none⟩ = some (.string o.name) ∧ W.cell? ⟨w.heap.size + 1, 6, none⟩ = some (.string o.value)) (first | with_reducible exact hd0 | with_reducible exact hd1 | with_reducible exact hd4 | with_reducible exact hd5 _ | with_reducible exact hd6 | with_reducible exact hd7 _ | with_reducible exact hd8) (first | (go_at_call 27; refine (HTO.out _).mono ?_; rintro e w4 ⟨rfl, hb4⟩; (first | (have hq4 := drewB hb4; have HR2 := hide (HR0.out.step hb4); have HR2t := HR2) | (have hq4 := skipD hb4; have HR2 := hide (HR0a.out.step hb4); have HR2t := hide HR2.out.tail)); have HX4 := hide (HXx.out.stays hq4); have HW4 := hide (HWx.out.step hq4); have hd4 := HS9.out _ HR2t.out; have hd5 := fun (ob : Obj) => HS9.out _ (HR2t.out.step ((Below.refl _ _).alloc (Nat.le_refl _) ob)); have hz4 := hq4.size; clear hb4 hq4) | (go_at_call 28; (first | (have hdo := iTreeDo_any d4 (some ⟨g4, 0, none⟩) d4.length o w4 (by rw [bare_len HBrx.out]; exact Hl2.out) (rng_alike HBrx.out HG.out) HX4.out.nodesAt (sized_alike HBrx.out HS2.out) HOs.out.1 HOs.out.2; unfold OpV.agg at hdo; refine hdo.mono ?_) | (have hdo := iTreeDo_any d4 (some ⟨g4, 0, none⟩) d4.length o _ (by rw [bare_len HBrx.out]; exact Hl2.out) (rng_alike HBrx.out HG.out) (HX4.out.stays ((Below.refl _ _).alloc (Nat.le_refl _) (.cells #[.slice none 0 0] 43))).nodesAt (sized_alike HBrx.out HS2.out) HOs.out.1 HOs.out.2; unfold OpV.agg at hdo; refine hdo.mono ?_)); rintro e w5 ⟨v5, d5, rfl, ht5, hd5, hb5⟩; obtain ⟨a5, c5, rfl, _, _⟩ := owns_atN ht5.row; have hq5 : Below w4.heap.size w4 w5 := (by first | exact hb5 | exact skipB hb5); (first | (have HR3 := hide (HR2.out.step hb5)) | (have HR3 := hide ((HR2.out.new _).step hb5))); have HR3t := hide (HR2t.out.step hq5); have HX5 := hide (HX4.out.stays hq5); have HW5 := hide (HW4.out.step hq5); have HT5 := hide ht5; have HU5 := hide ht5.under; have HD5 := hide (hd5.trans (treeDo_alike HBrx.out o)); have hd6 := HS9.out _ HR3t.out; have hd7 := fun (ob : Obj) => HS9.out _ (HR3t.out.step ((Below.refl _ _).alloc (Nat.le_refl _) ob)); have hz5 := hq5.size; (try (obtain ⟨k0, k1⟩ := cells1 HR3.out.head)); (try (have hd8 := HS9.out _ (HR3.out.put (v := .slice a5 d5.length c5) (by have := HYs.out; omega) (by have := HYs.out; simp; omega)).tail)); clear hdo ht5 hd5 hb5 hq5))
      all_goals (go_wp2_with fail)
      all_goals go_meet
      all_goals have hys := HYs.out
      · exact ⟨w5.heap.size, w4.heap.size, w5.heap.size, a5, c5, d5, rfl, by omega, by omega, .inr (Nat.le_refl _), HD5.out, HT5.out.stays ((Below.refl _ _).alloc (Nat.le_refl _) _), HU5.out, HX5.out.stays ((Below.refl _ _).alloc (Nat.le_refl _) _), HW5.out.step ((Below.refl _ _).alloc (Nat.le_refl _) _), HR3.out.new _⟩
      all_goals have hbl := (Array.getElem?_eq_some_iff.1 HR2.out.head).1
      all_goals exact ⟨_, _, w5.heap.size, a5, c5, d5, rfl, by omega, by first | omega | (simp; omega), .inl (by first | omega | simp), HD5.out, HT5.out.moved (fun g hg => Below.heap_setCell _ _ _ _ (by (try simp at hg); simp; omega)), HU5.out, HX5.out.over HUx.out (by omega) _, HW5.out.over (by omega) _, HR3.out.put (by omega) (by simp; omega)⟩
    case rest =>
      obtain ⟨e5, B5, T5, a5, c5, d5, rfl, he5, hB5, heB, hd5, hT5, hU5, hX5, hW5, hV5⟩ := hcut
      have HV5 := hide hV5
      have HW5 := hide hW5
      have HX5 := hide hX5
      have HT5 := hide hT5
      have HU5 := hide hU5
      have HE53 : Hid (d3.map NodG.bare = d5.map NodG.bare) := ⟨HD3.out.trans hd5.symm⟩
      have HZ5 := hide ((treeDo_szT HZl.out o).alike hd5)
      have HD5 := hide hd5
      clear hd5 hT5 hU5 hX5 hW5 hV5
      obtain ⟨E, hE⟩ : ∃ E, endN 1 d5 = E := ⟨_, rfl⟩
      have HE := hide hE
      have hE0 : (0 : Int) ≤ (E : Int) := by omega
      have hE1 : ¬ (E : Int) < 0 := by omega
      have q3 := HV5.out.one (b := b) (v := .slice a3 d3.length c3) (T := 43) (by simp)
      have q5 := HV5.out.one (b := e5) (v := .slice a5 d5.length c5) (T := 43) (by simp)
      clear hE
      go_wp2_with (first | (go_at_call 24; refine (eqTree_same d5 d3 _ _ _ _ _ HE53.out (by have := HZ5.out.1; unfold maxLen; omega) (fun n hn => (by have := HZ5.out.2 n hn; unfold maxLen; omega)) HT5.out.nodesAt HW5.out.at_).mono ?_; rintro e w6 ⟨rfl, hb6⟩; have HV6 := hide (HV5.out.step hb6); have HW6 := hide (HW5.out.step hb6); have HT6 := hide (HT5.out.stays hb6); have HX6 := hide (HX5.out.stays hb6); clear hb6 q3 q5))
      have hx0 : ∀ W, St w W ((e5, Obj.cells #[.slice a5 d5.length c5] 43) :: (x1.heap.size, Obj.cells #[.slice (some ⟨g4, 0, none⟩) d4.length d4.length] 43) :: (b, Obj.cells #[.slice a3 d3.length c3] 43) :: [(w.heap.size + 1, Obj.cells #[.int .i64 o.time, .int .i64 o.repl, .int .i64 o.kind, .int .i64 o.node, .int .i64 o.parent, .string o.name, .string o.value] 48), (w.heap.size, Obj.cells #[.slice ao l.length cap] 38)]) → W.cell? ⟨x1.heap.size, 0, none⟩ = some (.slice (some ⟨g4, 0, none⟩) d4.length d4.length) ∧ W.cell? ⟨w.heap.size, 0, none⟩ = some (.slice ao l.length cap) := fun W hW => ⟨hW.one (b := x1.heap.size) (v := .slice (some ⟨g4, 0, none⟩) d4.length d4.length) (T := 43) (by simp), hW.one (b := w.heap.size) (v := .slice ao l.length cap) (T := 38) (by simp)⟩
      have HX0 := hide hx0
      have hd0 := HX0.out _ HV6.out.drew
      clear hx0
      go_region_held3 (fun W => W.cell? ⟨x1.heap.size, 0, none⟩ = some (.slice (some ⟨g4, 0, none⟩) d4.length d4.length) ∧ W.cell? ⟨w.heap.size, 0, none⟩ = some (.slice ao l.length cap)) (first | with_reducible exact hd0 | with_reducible exact hd1 | with_reducible exact hd2) (first | (go_at_call 22; refine (toTree_any l ao cap _ Hl2.out (HA.out.stays HV6.out.drew.below) HZl.out.2).mono ?_; rintro e w7 ⟨d7, g7, rfl, hx7, hbr7, hb7⟩; have HV7 := hide (HV6.out.drew.step hb7); have HW7 := hide (HW6.out.step (drewB hb7)); have HT7 := hide (HT6.out.stays (drewB hb7)); have HX7 := hide (HX6.out.stays (drewB hb7)); have HY7 := hide hx7; have HBr7 := hide hbr7; have hd1 := HX0.out _ HV7.out; clear hx7 hbr7 hb7) | (go_at_call 24; refine (eqTree_same d4 d7 _ _ _ _ w7 (HBr7.out.trans HBrx.out.symm) (by rw [bare_len HBrx.out]; have := Hl2.out; unfold maxLen; omega) (fun n hn => (by have := (sized_alike HBrx.out HS2.out n hn).2.1; unfold maxLen; omega)) HX7.out.nodesAt HY7.out.nodesAt).mono ?_; rintro e w8 ⟨rfl, hb8⟩; have HV8 := hide (HV7.out.step hb8); have HW8 := hide (HW7.out.step hb8); have HT8 := hide (HT7.out.stays hb8); have HX8 := hide (HX7.out.stays hb8); have hd2 := HX0.out _ HV8.out; clear hb8))
      have q0 := HV8.out.one (b := x1.heap.size) (v := .slice (some ⟨g4, 0, none⟩) d4.length d4.length) (T := 43) (by simp)
      have HZ4 := hide (HZl.out.alike HBrx.out)
      have hK1 : endN 1 d4 ≤ 2200000000000 := by have := endN_le 1 d4 HZ4.out.2; have := HZ4.out.1; omega
      have hK0 : ¬ ((endN 1 d4 : Nat) : Int) < 0 := by omega
      have M1 : Hid True := ⟨trivial⟩
      have E2 : Hid True := ⟨trivial⟩
      have Q1 : Hid True := ⟨trivial⟩
      clear hd0 hd1 hd2
      go_wp2_with (first | (go_at_call 29; clear M1; refine (markTree_any d4 (some ⟨g4, 0, none⟩) d4.length wa.heap.size x1.heap.size 1 w8 HZ4.out.1 HZ4.out.2 (by omega) (by omega) HX8.out HUx.out).mono ?_; rintro e w9 ⟨rfl, _, hg9⟩; have HTw := hide hg9; have HV9 := hide (HV8.out.twixt HTw.out (by omega) (by simp; omega)); have HW9 := hide (HW8.out.twixt HTw.out (Nat.le_refl _)); have HT9 := hide (HT8.out.twixt HTw.out (by omega)); have q3 := HV9.out.one (b := b) (v := .slice a3 d3.length c3) (T := 43) (by simp); have q5 := HV9.out.one (b := e5) (v := .slice a5 d5.length c5) (T := 43) (by simp); clear hg9 q0) | (go_at_call 24; clear E2; refine (eqTree_same d5 d3 _ _ _ _ _ HE53.out (by have := HZ5.out.1; unfold maxLen; omega) (fun n hn => (by have := HZ5.out.2 n hn; unfold maxLen; omega)) HT9.out.nodesAt HW9.out.at_).mono ?_; rintro e w10 ⟨rfl, hb10⟩; have HV10 := hide (HV9.out.step hb10); have HW10 := hide (HW9.out.step hb10); have HT10 := hide (HT9.out.stays hb10); clear hb10 q3 q5; have q5 := HV10.out.one (b := e5) (v := .slice a5 d5.length c5) (T := 43) (by simp)) | (go_at_call 29; have hmk := markTree_any d5 a5 c5 B5 T5 1 w10 HZ5.out.1 HZ5.out.2 (by omega) (by omega) HT10.out HU5.out; rw [HE.out] at hmk; refine hmk.mono ?_; rintro e w11 ⟨rfl, ht11, hg11⟩; have HTw2 := hide hg11; have HV11 := hide (HV10.out.twixt HTw2.out (by omega) (by simp; omega)); have HW11 := hide (HW10.out.twixt HTw2.out (by omega)); have HN11 : Hid (NodesAt w11 a5 (markN 1 d5)) := hide (TreeOwn.nodesAt (cap := c5) (by rw [markN_len]; exact ht11)); clear q5 hmk ht11 hg11; have q5 := HV11.out.one (b := e5) (v := .slice a5 d5.length c5) (T := 43) (by simp)) | (go_at_call 30; clear Q1; have hhd := heldTree_any d5 1 c5 a5 w11 HZ5.out.1 HZ5.out.2 (by omega) (by omega) HN11.out; rw [HE.out] at hhd; refine hhd.mono ?_; rintro e w12 ⟨rfl, hb12⟩; have HV12 := hide (HV11.out.step hb12); have HW12 := hide (HW11.out.step hb12); have HN12 := hide (HN11.out.stays hb12); clear q5 hhd hb12))
      have HM12 := hide (Lies.of HN12.out)
      have hS7 : ∀ W, St w W ((e5, Obj.cells #[.slice a5 d5.length c5] 43) :: (x1.heap.size, Obj.cells #[.slice (some ⟨g4, 0, none⟩) d4.length d4.length] 43) :: (b, Obj.cells #[.slice a3 d3.length c3] 43) :: [(w.heap.size + 1, Obj.cells #[.int .i64 o.time, .int .i64 o.repl, .int .i64 o.kind, .int .i64 o.node, .int .i64 o.parent, .string o.name, .string o.value] 48), (w.heap.size, Obj.cells #[.slice ao l.length cap] 38)]) → W.cell? ⟨w.heap.size, 0, none⟩ = some (.slice ao l.length cap) ∧ W.cell? ⟨w.heap.size + 1, 0, none⟩ = some (.int .i64 o.time) ∧ W.cell? ⟨w.heap.size + 1, 1, none⟩ = some (.int .i64 o.repl) ∧ W.cell? ⟨w.heap.size + 1, 2, none⟩ = some (.int .i64 o.kind) ∧ W.cell? ⟨w.heap.size + 1, 3, none⟩ = some (.int .i64 o.node) ∧ W.cell? ⟨w.heap.size + 1, 4, none⟩ = some (.int .i64 o.parent) ∧ W.cell? ⟨w.heap.size + 1, 5, none⟩ = some (.string o.name) ∧ W.cell? ⟨w.heap.size + 1, 6, none⟩ = some (.string o.value) := fun W hW => ⟨hW.one (b := w.heap.size) (v := .slice ao l.length cap) (T := 38) (by simp), hW.op (b := w.heap.size + 1) (o := o) (T := 48) (by simp)⟩
      have HS7 := hide hS7
      have he12 := HV12.out.lt (p := (e5, Obj.cells #[.slice a5 d5.length c5] 43)) (by simp)
      have hx12 := HV12.out.lt (p := (x1.heap.size, Obj.cells #[.slice (some ⟨g4, 0, none⟩) d4.length d4.length] 43)) (by simp)
      clear hS7
      go_cut [12] from 65 (fun p wx => ∃ (e6 : Nat) (a6 : Option Addr) (c6 : Nat) (d6 : List NodG), p = .pointer (some ⟨e6, 0, none⟩) ∧ d6.map NodG.bare = (treeDo l o).map NodG.bare ∧ NodesAt wx a6 d6 ∧ Lies wa.heap.size wx a3 d3 ∧ Lies w12.heap.size wx a5 (markN 1 d5) ∧ St w wx ((e6, Obj.cells #[.slice a6 d6.length c6] 43) :: ((e5, Obj.cells #[.slice a5 d5.length c5] 43) :: (x1.heap.size, Obj.cells #[.slice (some ⟨g4, 0, none⟩) d4.length d4.length] 43) :: (b, Obj.cells #[.slice a3 d3.length c3] 43) :: [(w.heap.size + 1, Obj.cells #[.int .i64 o.time, .int .i64 o.repl, .int .i64 o.kind, .int .i64 o.node, .int .i64 o.parent, .string o.name, .string o.value] 48), (w.heap.size, Obj.cells #[.slice ao l.length cap] 38)])))
      case first =>
        have HR0 := hide HV12.out.drew
        have HR0a := hide (HV12.out.new (.cells #[.slice none 0 0] 43)).drew
        have hd0 := HS7.out _ HR0.out
        have hd1 := HS7.out _ HR0a.out.tail
        go_region_held3 (fun W => W.cell? ⟨w.heap.size, 0, none⟩ = some (.slice ao l.length cap) ∧ W.cell? ⟨w.heap.size + 1, 0, none⟩ = some (.int .i64 o.time) ∧ W.cell? ⟨w.heap.size + 1, 1, none⟩ = some (.int .i64 o.repl) ∧ W.cell? ⟨w.heap.size + 1, 2, none⟩ = some (.int .i64 o.kind) ∧ W.cell? ⟨w.heap.size + 1, 3, none⟩ = some (.int .i64 o.node) ∧ W.cell? ⟨w.heap.size + 1, 4, none⟩ = some (.int .i64 o.parent) ∧ W.cell? ⟨w.heap.size + 1, 5, none⟩ = some (.string o.name) ∧ W.cell? ⟨w.heap.size + 1, 6, none⟩ = some (.string o.value)) (first | with_reducible exact hd0 | with_reducible exact hd1 | with_reducible exact hd2 | with_reducible exact hd3 _ | with_reducible exact hd4 | with_reducible exact hd5 _ | with_reducible exact hd6 | with_reducible exact hd7 _ | with_reducible exact hd8) (first | (go_at_call 22; (first | (refine (toTree_any l ao cap w12.drew Hl2.out (HA.out.stays HR0.out.below) HZl.out.2).mono ?_; rintro e w13 ⟨d12, g12, rfl, hx, hbr12, hb13⟩; have hq13 := drewB hb13; have HR1 := hide (HR0.out.step hb13); have HR1t := HR1) | (refine (toTree_any l ao cap (w12.alloc (.cells #[.slice none 0 0] 43)).drew Hl2.out (HA.out.stays HR0a.out.below) HZl.out.2).mono ?_; rintro e w13 ⟨d12, g12, rfl, hx, hbr12, hb13⟩; have hq13 := skipD hb13; have HR1 := hide (HR0a.out.step hb13); have HR1t := hide HR1.out.tail)); have HY3 := hide hx; have HBr12 := hide hbr12; have hd2 := HS7.out _ HR1t.out; have hd3 := fun (ob : Obj) => HS7.out _ (HR1t.out.step ((Below.refl _ _).alloc (Nat.le_refl _) ob)); have hz3 := hq13.size; have HW13 := hide (HW12.out.step hq13); have HM13 := hide (HM12.out.step hq13); clear hx hbr12 hb13 hq13) | (go_at_call 27; refine (HTO.out _).mono ?_; rintro e w14 ⟨rfl, hb14⟩; have hq14 : Below w13.heap.size w13 w14 := (by first | exact hb14 | exact skipB hb14); (first | (have HR2 := hide (HR1.out.step hb14)) | (have HR2 := hide ((HR1.out.new _).step hb14))); have HR2t := hide (HR1t.out.step hq14); have HY4 := hide (HY3.out.stays hq14); have hd4 := HS7.out _ HR2t.out; have hd5 := fun (ob : Obj) => HS7.out _ (HR2t.out.step ((Below.refl _ _).alloc (Nat.le_refl _) ob)); have hz4 := hq14.size; have HW14 := hide (HW13.out.step hq14); have HM14 := hide (HM13.out.step hq14); clear hb14 hq14) | (go_at_call 28; (first | (have hdo := iTreeDo_any d12 (some ⟨g12, 0, none⟩) d12.length o w14 (by rw [bare_len HBr12.out]; exact Hl2.out) (rng_alike HBr12.out HG.out) HY4.out.nodesAt (sized_alike HBr12.out HS2.out) HOs.out.1 HOs.out.2; unfold OpV.agg at hdo; refine hdo.mono ?_) | (have hdo := iTreeDo_any d12 (some ⟨g12, 0, none⟩) d12.length o _ (by rw [bare_len HBr12.out]; exact Hl2.out) (rng_alike HBr12.out HG.out) (HY4.out.stays ((Below.refl _ _).alloc (Nat.le_refl _) (.cells #[.slice none 0 0] 43))).nodesAt (sized_alike HBr12.out HS2.out) HOs.out.1 HOs.out.2; unfold OpV.agg at hdo; refine hdo.mono ?_)); rintro e w15 ⟨v15, d15, rfl, ht15, hd5, hb15⟩; obtain ⟨a15, c15, rfl, _, _⟩ := owns_atN ht15.row; have hq15 : Below w14.heap.size w14 w15 := (by first | exact hb15 | exact skipB hb15); (first | (have HR3 := hide (HR2.out.step hb15)) | (have HR3 := hide ((HR2.out.new _).step hb15))); have HR3t := hide (HR2t.out.step hq15); have HT15 := hide ht15; have HD15 := hide (hd5.trans (treeDo_alike HBr12.out o)); have hd6 := HS7.out _ HR3t.out; have hd7 := fun (ob : Obj) => HS7.out _ (HR3t.out.step ((Below.refl _ _).alloc (Nat.le_refl _) ob)); (try (obtain ⟨k0, k1⟩ := cells1 HR3.out.head)); (try (have hd8 := HS7.out _ (HR3.out.put (v := .slice a15 d15.length c15) (by omega) (by simp; omega)).tail)); have hz5 := hq15.size; have HW15 := hide (HW14.out.step hq15); have HM15 := hide (HM14.out.step hq15); clear hdo ht15 hd5 hb15 hq15))
        all_goals (go_wp2_with fail)
        all_goals go_meet
        · exact ⟨w15.heap.size, a15, c15, d15, rfl, HD15.out, (HT15.out.stays ((Below.refl _ _).alloc (Nat.le_refl _) _)).nodesAt, HW15.out.step ((Below.refl _ _).alloc (Nat.le_refl _) _), HM15.out.step ((Below.refl _ _).alloc (Nat.le_refl _) _), HR3.out.new _⟩
        all_goals have hbl := (Array.getElem?_eq_some_iff.1 HR2.out.head).1
        all_goals exact ⟨_, a15, c15, d15, rfl, HD15.out, (HT15.out.moved (fun g hg => Below.heap_setCell _ _ _ _ (by (try simp at hg); simp; omega))).nodesAt, HW15.out.over (by omega) _, HM15.out.over (by omega) _, HR3.out.put (by omega) (by simp; omega)⟩
      case rest =>
        obtain ⟨e6, a6, c6, d6, rfl, hd6, hT6, hW6, hM6, hV6⟩ := hcut
        have HW13 := hide hW6
        have HV13 := hide hV6
        have HM13 := hide hM6
        have HT13 := hide hT6
        have HE63 : Hid (d3.map NodG.bare = d6.map NodG.bare) := ⟨HD3.out.trans hd6.symm⟩
        have HZ6 := hide ((treeDo_szT HZl.out o).alike hd6)
        have q3 := HV13.out.one (b := b) (v := .slice a3 d3.length c3) (T := 43) (by simp)
        have q6 := HV13.out.one (b := e6) (v := .slice a6 d6.length c6) (T := 43) (by simp)
        clear hd6 hT6 hW6 hM6 hV6
        go_wp2_with (first | (go_at_call 24; refine (eqTree_same d6 d3 _ _ _ _ _ HE63.out (by have := HZ6.out.1; unfold maxLen; omega) (fun n hn => (by have := HZ6.out.2 n hn; unfold maxLen; omega)) HT13.out HW13.out.at_).mono ?_; rintro e w16 ⟨rfl, hb16⟩; have HV16 := hide (HV13.out.step hb16); have HM16 := hide (HM13.out.step hb16); clear hb16 q3 q6; have q5 := HV16.out.one (b := e5) (v := .slice a5 d5.length c5) (T := 43) (by simp)) | (go_at_call 30; have hhd := heldTree_any d5 1 c5 a5 w16 HZ5.out.1 HZ5.out.2 (by omega) (by omega) HM16.out.at_; rw [HE.out] at hhd; refine hhd.mono ?_; rintro e w17 ⟨rfl, hb17⟩; have HV17 := hide (HV16.out.step hb17); clear q5 hhd hb17))
        go_ret
        exact ⟨rfl, HV17.out.below⟩
end Go.Proofs.Ytcpgkalafkhlgae.OpR
