/- Proves what the harness' marks do to trees, and what its look at them tells. Proves what the harness' marks do to a tree, and what its look at them tells. Proves what the harness' marks of a whole tree do, and what its look at them tells. What the laws of trees carry along: variables, trees that are looked at, trees that are marked. Proves what the harness' marks do to a row of ops. Proves what the harness' look at marks tells. Proves the walk of the law FnExactTreeOf. Proves that at every list of ops impl.TreeOf answers as spec.TreeOf does, that it writes into nothing and that its answer owns its memory (the law FnExactTreeOf returns true, and the ops read as they did); no condition. -/
import Derived.Test.YtcpgkalafkhlgaeOfj
namespace Go.Proofs.Ytcpgkalafkhlgae.OpR
open Go.ChangeShapes Go.WideShapes Go.ChangeAt Go.RowKit
set_option linter.unusedVariables false

def mark1 (k : Nat) (n : NodG) : NodG := ⟨(k : Int), (k : Int) + 1, mt (k + 2), markP (k + 3) n.props.length, n.pao, n.pcap⟩
/-- Nodes that are marked from k on. -/
def markN : Nat → List NodG → List NodG
  | _, [] => []
  | k, n :: r => mark1 k n :: markN (k + 3 + 2 * n.props.length) r
def endN : Nat → List NodG → Nat
  | k, [] => k
  | k, n :: r => endN (k + 3 + 2 * n.props.length) r
theorem markN_len : ∀ (k : Nat) (l : List NodG), (markN k l).length = l.length
  | _, [] => rfl
  | k, n :: r => by simp [markN, markN_len]
theorem endN_snoc : ∀ (k : Nat) (l : List NodG) (n : NodG), endN k (l ++ [n]) = endN k l + 3 + 2 * n.props.length
  | _, [], _ => rfl
  | k, m :: r, n => by simp only [List.cons_append, endN]; exact endN_snoc _ r n
theorem endN_take {k : Nat} {l : List NodG} {i : Nat} (h : i < l.length) : endN k (l.take (i + 1)) = endN k (l.take i) + 3 + 2 * l[i].props.length := by
  rw [← List.take_append_getElem h, endN_snoc]
theorem markN_get : ∀ {k : Nat} {l : List NodG} {i : Nat} (h : i < (markN k l).length) (hi : i < l.length), (markN k l)[i] = mark1 (endN k (l.take i)) l[i]
  | k, n :: r, 0, _, _ => rfl
  | k, n :: r, i + 1, h, hi => by
    simp only [markN, List.getElem_cons_succ, List.take_succ_cons, endN]
    exact markN_get _ _
theorem endN_le : ∀ (k : Nat) (l : List NodG), (∀ n ∈ l, n.props.length ≤ 1048576) → endN k l ≤ k + l.length * 2097155
  | k, [], _ => by simp [endN]
  | k, n :: r, h => by
    have h1 := h n (by simp)
    have h2 := endN_le (k + 3 + 2 * n.props.length) r (fun m hm => h m (by simp [hm]))
    simp only [endN, List.length_cons]
    omega
theorem endN_ge : ∀ (k : Nat) (l : List NodG), k ≤ endN k l
  | k, [] => Nat.le_refl _
  | k, n :: r => by have := endN_ge (k + 3 + 2 * n.props.length) r; simp only [endN]; omega

/-- What lies outside of a stretch of blocks is as it was. -/
structure Twixt (base top : Nat) (w w' : World) : Prop where
  os : w'.os = w.os
  tape : w'.tape = w.tape
  output : w'.output = w.output
  size : w.heap.size ≤ w'.heap.size
  block : ∀ k, k < w.heap.size → (k < base ∨ top ≤ k) → w'.heap[k]? = w.heap[k]?
theorem Twixt.refl (base top : Nat) (w : World) : Twixt base top w w := ⟨rfl, rfl, rfl, Nat.le_refl _, fun _ _ _ => rfl⟩
theorem Twixt.trans {base top : Nat} {a b c : World} (h : Twixt base top a b) (k : Twixt base top b c) : Twixt base top a c :=
  ⟨k.os.trans h.os, k.tape.trans h.tape, k.output.trans h.output, Nat.le_trans h.size k.size, fun i hi hn => (k.block i (Nat.lt_of_lt_of_le hi h.size) hn).trans (h.block i hi hn)⟩
theorem Twixt.of {base top : Nat} {a b : World} (h : Below a.heap.size a b) : Twixt base top a b := ⟨h.os, h.tape, h.output, h.size, fun k hk _ => h.block k hk⟩
theorem Twixt.set {base top : Nat} {a b : World} (h : Twixt base top a b) {g : Nat} (h1 : base ≤ g) (h2 : g < top) (p : Nat) (u : Value) : Twixt base top a (b.setCell ⟨g, p, none⟩ u) :=
  ⟨h.os, h.tape, h.output, Nat.le_trans h.size (by simp [World.setCell]), fun k hk hn => (Below.heap_setCell _ _ _ _ (show k ≠ g by omega)).trans (h.block k hk hn)⟩
theorem Twixt.grown {base top : Nat} {a b : World} {r : Option Nat} (h : a.grownBy b r) (hr : ∀ g, r = some g → base ≤ g ∧ g < top) : Twixt base top a b :=
  ⟨h.os, h.tape, h.output, h.size, fun k hk hn => h.block k hk (fun e => by have := hr k e.symm; omega)⟩
/-- The blocks of a tree lie below a number. -/
def Under (top : Nat) (v : Value) (l : List NodG) : Prop := (∀ g, v.ownBlock = some g → g < top) ∧ ∀ n ∈ l, ∀ x, n.pao = some x → x.block < top
theorem TreeOwn.under {w : World} {base : Nat} {v : Value} {l : List NodG} (h : TreeOwn w base v l) : Under w.heap.size v l :=
  ⟨fun g e => (h.row.lt g e).2, fun n hn x hx => ((h.props n hn).lt x.block (by rw [hx]; rfl)).2⟩

theorem set_pairwise {α : Type} {R : α → α → Prop} : ∀ {l : List α} {i : Nat} {x : α} (hi : i < l.length), l.Pairwise R → (∀ y, R y l[i] → R y x) → (∀ y, R l[i] y → R x y) → (l.set i x).Pairwise R
  | y :: r, 0, x, _, h, h1, h2 => by
    obtain ⟨ha, hb⟩ := List.pairwise_cons.1 h
    rw [List.set_cons_zero]
    exact List.pairwise_cons.2 ⟨fun z hz => h2 z (ha z hz), hb⟩
  | y :: r, i + 1, x, hi, h, h1, h2 => by
    obtain ⟨ha, hb⟩ := List.pairwise_cons.1 h
    rw [List.set_cons_succ]
    refine List.pairwise_cons.2 ⟨fun z hz => ?_, set_pairwise (by simpa using hi) hb h1 h2⟩
    rcases List.mem_or_eq_of_mem_set hz with hz | rfl
    · exact ha z hz
    · exact h1 y (ha _ (List.getElem_mem _))
/-- A node of a tree stored anew in a field that is no props. -/
theorem TreeOwn.field {w : World} {base g cap : Nat} {l : List NodG} (h : TreeOwn w base (.slice (some ⟨g, 0, none⟩) l.length cap) l) {j f : Nat} (hj : j < l.length) (hf : f < 4) (u : Value) (x : NodG) (hx : x.cells = l[j].cells.set f u) (hp : x.pao = l[j].pao) (hq : x.props = l[j].props) (hr : x.pcap = l[j].pcap) :
    TreeOwn (w.setCell ⟨g, j * 4 + f, none⟩ u) base (.slice (some ⟨g, 0, none⟩) (l.set j x).length cap) (l.set j x) := by
  have hoff : ∀ n ∈ l.set j x, ∀ y, n.pao = some y → g ≠ y.block := fun n hn y hy => by
    have hh : ∀ n ∈ l, ∀ y, n.pao = some y → g ≠ y.block := fun n hn y hy e => h.off n hn y hy (by rw [← e]; rfl)
    rcases List.mem_or_eq_of_mem_set hn with hn | rfl
    · exact hh n hn y hy
    · exact hh l[j] (List.getElem_mem hj) y (by rw [← hp]; exact hy)
  refine ⟨?_, fun n hn => ?_, ?_, fun n hn y hy e => hoff n hn y hy (Option.some.inj e)⟩
  · have := owns_store h.row (j * 4 + f) u
    rw [flat_field nod_len l j f hj u x hf hx] at this
    rw [List.length_set]; exact this
  · have hin : w.ownsRow base 118 2 (.slice n.pao n.props.length n.pcap) n.props.length (flatG PropV.cells n.props) := by
      rcases List.mem_or_eq_of_mem_set hn with hn | rfl
      · exact h.props n hn
      · rw [hp, hq, hr]; exact h.props _ (List.getElem_mem hj)
    refine hin.kept (row := some g) ⟨rfl, rfl, rfl, by simp [World.setCell], fun k hk hne => Below.heap_setCell _ _ _ _ (fun e => hne (by rw [e]))⟩ ?_
    cases hpa : n.pao with
    | none => exact .inl rfl
    | some y => exact .inr (fun e => hoff n hn y hpa (Option.some.inj e).symm)
  · exact set_pairwise hj h.apart (fun y hy a b ha hb => hy a b ha (by rw [← hp]; exact hb)) (fun y hy a b ha hb => hy a b (by rw [← hp]; exact ha) hb)
/-- The props of a node stored anew, where they lie. -/
theorem TreeOwn.turned {w w' : World} {base g cap : Nat} {l : List NodG} (h : TreeOwn w base (.slice (some ⟨g, 0, none⟩) l.length cap) l) {j : Nat} (hj : j < l.length) (n : NodG) (hn : l[j] = n) (ps : List PropV) (hps : ps.length = n.props.length)
    (hg : w.grownBy w' (Value.slice n.pao n.props.length n.pcap).ownBlock) (ho : w'.ownsRow base 118 2 (.slice n.pao n.props.length n.pcap) n.props.length (flatG PropV.cells ps)) :
    TreeOwn w' base (.slice (some ⟨g, 0, none⟩) (l.set j ⟨n.id, n.parent, n.name, ps, n.pao, n.pcap⟩).length cap) (l.set j ⟨n.id, n.parent, n.name, ps, n.pao, n.pcap⟩) := by
  have hnm : n ∈ l := by rw [← hn]; exact List.getElem_mem hj
  have hfl : flatG NodG.cells (l.set j ⟨n.id, n.parent, n.name, ps, n.pao, n.pcap⟩) = flatG NodG.cells l := by
    have e := flat_field nod_len l j 3 hj (.slice n.pao n.props.length n.pcap) ⟨n.id, n.parent, n.name, ps, n.pao, n.pcap⟩ (by omega) (by rw [hn]; simp [NodG.cells, hps])
    rw [← e]
    have e2 : (flatG NodG.cells l)[j * 4 + 3]? = some (.slice n.pao n.props.length n.pcap) := by rw [flatG_get nod_len l j 3 hj (by omega), hn]; rfl
    obtain ⟨h1, h2⟩ := List.getElem?_eq_some_iff.1 e2
    rw [← h2]
    exact List.set_getElem_self h1
  have hap : ∀ m ∈ l.set j ⟨n.id, n.parent, n.name, ps, n.pao, n.pcap⟩, ∀ y, m.pao = some y → g ≠ y.block := fun m hm y hy => by
    have hh : ∀ n ∈ l, ∀ y, n.pao = some y → g ≠ y.block := fun n hn y hy e => h.off n hn y hy (by rw [← e]; rfl)
    rcases List.mem_or_eq_of_mem_set hm with hm | rfl
    · exact hh m hm y hy
    · exact hh n hnm y hy
  have hP : ∀ m ∈ l.set j ⟨n.id, n.parent, n.name, ps, n.pao, n.pcap⟩, w'.ownsRow base 118 2 (.slice m.pao m.props.length m.pcap) m.props.length (flatG PropV.cells m.props) := by
    intro m hm
    obtain ⟨i, hi, rfl⟩ := List.getElem_of_mem hm
    have hi' : i < l.length := by simpa using hi
    by_cases e : j = i
    · subst e
      rw [List.getElem_set_self]
      show w'.ownsRow base _ 2 (.slice n.pao ps.length n.pcap) ps.length (flatG PropV.cells ps)
      rw [hps]; exact ho
    · rw [List.getElem_set_ne e]
      refine (h.props _ (List.getElem_mem hi')).kept hg ?_
      cases hpa : l[i].pao with
      | none => exact .inl rfl
      | some y =>
        right
        intro e2
        cases hpn : n.pao with
        | none => rw [hpn] at e2; cases e2
        | some z =>
          rw [hpn] at e2
          have e3 : y.block = z.block := Option.some.inj e2
          rcases Nat.lt_or_gt_of_ne e with hlt | hlt
          · exact List.pairwise_iff_getElem.1 h.apart j i hj hi' hlt z y (by rw [hn]; exact hpn) hpa e3.symm
          · exact List.pairwise_iff_getElem.1 h.apart i j hi' hj hlt y z hpa (by rw [hn]; exact hpn) e3
  refine ⟨?_, hP, ?_, fun m hm y hy e => hap m hm y hy (Option.some.inj e)⟩
  · rw [hfl, List.length_set]
    refine h.row.kept hg ?_
    cases hpn : n.pao with
    | none => right; intro e; cases e
    | some z => right; intro e; exact h.off n hnm z hpn (by rw [← Option.some.inj e]; rfl)
  · exact set_pairwise hj h.apart (fun y hy a b ha hb => hy a b ha (by rw [hn]; exact hb)) (fun y hy a b ha hb => hy a b (by rw [hn]; exact ha) hb)
end Go.Proofs.Ytcpgkalafkhlgae.OpR
namespace Go.Proofs.Ytcpgkalafkhlgae.OpR
open Go.ChangeShapes Go.WideShapes Go.ChangeAt Go.RowKit
set_option linter.unusedVariables false

theorem mix_mem {k : Nat} {l : List NodG} {j : Nat} {n : NodG} (h : n ∈ mixG (markN k l) l j) : ∃ m ∈ l, n.pao = m.pao ∧ n.props.length = m.props.length := by
  rcases List.mem_append.1 h with h | h
  · obtain ⟨i, hi, rfl⟩ := List.getElem_of_mem (List.mem_of_mem_take h)
    have hi' : i < l.length := by rw [markN_len] at hi; exact hi
    rw [markN_get hi hi']
    exact ⟨l[i], List.getElem_mem hi', rfl, by simp [mark1, markP_len]⟩
  · exact ⟨n, List.mem_of_mem_drop h, rfl, rfl⟩
theorem own_cell {w : World} {base : Nat} {T : TypeId} {c g N n cap : Nat} {xs : List Value} (h : w.ownsRow base T c (.slice (some ⟨g, 0, none⟩) N cap) n xs) {i : Nat} (hi : i < xs.length) : w.cell? ⟨g, i, none⟩ = some xs[i] := by
  rcases h.2 with ⟨e, _⟩ | ⟨g', cap', cur, e, hb, hg, h1, h2, h3, h4⟩
  · cases e
  · simp only [Value.slice.injEq, Option.some.injEq, Addr.mk.injEq] at e
    obtain ⟨⟨rfl, _⟩, rfl, rfl⟩ := e
    exact row_cell h hi
theorem own_free {w : World} {base : Nat} {T : TypeId} {c g N n cap : Nat} {xs : List Value} (h : w.ownsRow base T c (.slice (some ⟨g, 0, none⟩) N cap) n xs) (p : Nat) : w.frozen? ⟨g, p, none⟩ = false := by
  rcases h.2 with ⟨e, _⟩ | ⟨g', cap', cur, e, hb, hg, h1, h2, h3, h4⟩
  · cases e
  · simp only [Value.slice.injEq, Option.some.injEq, Addr.mk.injEq] at e
    obtain ⟨⟨rfl, _⟩, _, rfl⟩ := e
    simp [World.frozen?, hg]
theorem nod_cells {w : World} {base g N cap : Nat} {d : List NodG} (h : TreeOwn w base (.slice (some ⟨g, 0, none⟩) N cap) d) {j : Nat} (hj : j < d.length) : NodAt w g (j * 4) d[j] := by
  have hc : ∀ f, f < 4 → ∀ u, d[j].cells[f]? = some u → w.cell? ⟨g, j * 4 + f, none⟩ = some u := fun f hf u hu => by
    have h0 := (flatG_get nod_len d j f hj hf).trans hu
    obtain ⟨h1, h2⟩ := List.getElem?_eq_some_iff.1 h0
    have h3 := own_cell h.row h1
    rw [h2] at h3
    exact h3
  exact ⟨hc 0 (by omega) _ rfl, hc 1 (by omega) _ rfl, hc 2 (by omega) _ rfl, hc 3 (by omega) _ rfl⟩
set_option maxRecDepth 100000 in
set_option maxHeartbeats 1000000 in
theorem markNodeS_some (l : List NodG) (g cap base top k0 : Nat) (w : World) (hl : l.length ≤ 1048576) (hp : ∀ n ∈ l, n.props.length ≤ 1048576) (hk : 0 < k0) (hk2 : k0 ≤ 1048576) (hO : TreeOwn w base (.slice (some ⟨g, 0, none⟩) l.length cap) l) (hU : Under top (.slice (some ⟨g, 0, none⟩) l.length cap) l) :
    Calls Try.prog 69 #[.slice (some ⟨g, 0, none⟩) l.length cap, .int .i64 (k0 : Int)] w fun e w' => e = .returned (.int .i64 (endN k0 l : Int)) ∧ TreeOwn w' base (.slice (some ⟨g, 0, none⟩) l.length cap) (markN k0 l) ∧ Twixt base top w w' := by
  have HO := hide hO
  have HP := hide hp
  have HU := hide hU
  have HML : Hid ((markN k0 l).length = l.length) := ⟨markN_len k0 l⟩
  have HGb : Hid (base ≤ g ∧ g < top) := ⟨⟨(hO.row.lt g rfl).1, hU.1 g rfl⟩⟩
  clear hO hp hU
  go_enter Try.func69, Try.ntmps69
  go_wp2
  go_loopw [1, 5] (fun kv i wr => ∃ j : Nat, j ≤ l.length ∧ i = .int .i64 j ∧ kv = .int .i64 (endN k0 (l.take j) : Int) ∧ TreeOwn wr base (.slice (some ⟨g, 0, none⟩) l.length cap) (mixG (markN k0 l) l j) ∧ Twixt base top w wr) (fun _ i _ => l.length - (intOf i).toNat)
  case atStart => exact ⟨0, by omega, rfl, rfl, by rw [mixG_zero]; exact HO.out, Twixt.refl _ _ _⟩
  case round =>
    obtain ⟨j, hj, rfl, rfl, hR, hg⟩ := hrel
    have HG := hide hg
    clear hg
    obtain ⟨K, hK⟩ : ∃ K, endN k0 (l.take j) = K := ⟨_, rfl⟩
    have HK := hide hK
    have hK2 : K ≤ 2200000000000 := by
      have := endN_le k0 (l.take j) (fun n hn => HP.out n (List.mem_of_mem_take hn))
      rw [List.length_take] at this
      omega
    have hK0 : 0 < K := by have := endN_ge k0 (l.take j); omega
    rw [hK]
    clear hK
    have HL : Hid ((mixG (markN k0 l) l j).length = l.length) := ⟨mixG_len HML.out hj⟩
    by_cases h : j < l.length
    · have hi0 : (0 : Int) ≤ (j : Int) := by omega
      have hi1 : (j : Int) < (l.length : Int) := by omega
      obtain ⟨d, hd⟩ : ∃ d, mixG (markN k0 l) l j = d := ⟨_, rfl⟩
      obtain ⟨n, hn⟩ : ∃ n, l[j] = n := ⟨_, rfl⟩
      have hdl : d.length = l.length := by rw [← hd]; exact HL.out
      have hjd : j < d.length := by omega
      have hdj : d[j] = n := by subst hd; rw [mixG_get HML.out h, hn]
      have hnp : n.props.length ≤ 1048576 := by rw [← hn]; exact HP.out _ (List.getElem_mem h)
      rw [hd] at hR
      have HD := hide hd
      have HN := hide hn
      have HDJ := hide hdj
      have hR' : TreeOwn wr base (.slice (some ⟨g, 0, none⟩) d.length cap) d := by rw [hdl]; exact hR
      -- the stores, one by one
      have T1 := hR'.field hjd (f := 0) (by omega) (.int .i64 (K : Int)) ⟨(K : Int), n.parent, n.name, n.props, n.pao, n.pcap⟩ (by rw [hdj]; rfl) (by rw [hdj]) (by rw [hdj]) (by rw [hdj])
      have T2 := T1.field (j := j) (by rw [List.length_set]; exact hjd) (f := 1) (by omega) (.int .i64 ((K : Int) + 1)) ⟨(K : Int), (K : Int) + 1, n.name, n.props, n.pao, n.pcap⟩ (by rw [List.getElem_set_self]; rfl) (by rw [List.getElem_set_self]) (by rw [List.getElem_set_self]) (by rw [List.getElem_set_self])
      rw [List.set_set, List.length_set, hdl] at T2
      have HT2 : Hid (TreeOwn ((wr.setCell ⟨g, j * 4, none⟩ (.int .i64 (K : Int))).setCell ⟨g, j * 4 + 1, none⟩ (.int .i64 ((K : Int) + 1))) base (.slice (some ⟨g, 0, none⟩) l.length cap) (d.set j ⟨(K : Int), (K : Int) + 1, n.name, n.props, n.pao, n.pcap⟩)) := ⟨T2⟩
      have HG2 : Hid (Twixt base top w ((wr.setCell ⟨g, j * 4, none⟩ (.int .i64 (K : Int))).setCell ⟨g, j * 4 + 1, none⟩ (.int .i64 ((K : Int) + 1)))) := ⟨(HG.out.set HGb.out.1 HGb.out.2 _ _).set HGb.out.1 HGb.out.2 _ _⟩
      obtain ⟨c0, c1, c2, c3⟩ := nod_cells hR hjd
      rw [hdj] at c0 c1 c2 c3
      have f0 := own_free hR.row (j * 4)
      have f1 := own_free hR.row (j * 4 + 1)
      have hT : ∀ w, Calls Try.prog 50 #[.int .i64 ((K : Int) + 1 + 1)] w fun e w' => e = .returned (.string (mt (K + 2))) ∧ Below w.heap.size w w' := fun w => by
        rw [show (K : Int) + 1 + 1 = ((K + 2 : Nat) : Int) by omega]
        exact markText_any (K + 2) (by omega) (by omega) w
      clear T1 T2 hR hR' hd hn hdj
      go_wp2_with (first | (go_at_call 50; refine (hT _).mono ?_; rintro e w1 ⟨rfl, hb1⟩; have ht3 := HT2.out.stays hb1; have HG3 : Hid (Twixt base top w w1) := ⟨HG2.out.trans (Twixt.of hb1)⟩; obtain ⟨d0, d1, d2, d3⟩ := nod_cells ht3 (j := j) (by rw [List.length_set]; exact hjd); rw [List.getElem_set_self] at d0 d1 d2 d3; have g2 := own_free ht3.row (j * 4 + 2); have ht4 := TreeOwn.field (cap := cap) (by rw [List.length_set, hdl]; exact ht3) (j := j) (by rw [List.length_set]; exact hjd) (f := 2) (by omega) (.string (mt (K + 2))) ⟨(K : Int), (K : Int) + 1, mt (K + 2), n.props, n.pao, n.pcap⟩ (by rw [List.getElem_set_self]; rfl) (by rw [List.getElem_set_self]) (by rw [List.getElem_set_self]) (by rw [List.getElem_set_self]); rw [List.set_set, List.length_set, hdl] at ht4; have HT4 := hide ht4; have HG4 := hide (HG3.out.set HGb.out.1 HGb.out.2 (j * 4 + 2) (.string (mt (K + 2)))); have HX4 : Hid ((w1.setCell ⟨g, j * 4 + 2, none⟩ (.string (mt (K + 2)))).ownsRow base 118 2 (.slice n.pao n.props.length n.pcap) n.props.length (flatG PropV.cells n.props)) := ⟨ht4.props ⟨(K : Int), (K : Int) + 1, mt (K + 2), n.props, n.pao, n.pcap⟩ (List.mem_set hjd _)⟩; clear hT ht3 ht4 hb1 c0 c1 c2 c3 f0 f1) | (go_at_call 105; have hmp := markPropS_any n.props n.pao n.pcap base (K + 3) (w1.setCell ⟨g, j * 4 + 2, none⟩ (.string (mt (K + 2)))) hnp (by omega) (by omega) HX4.out; rw [show ((K + 3 : Nat) : Int) = (K : Int) + 1 + 1 + 1 by omega] at hmp; refine hmp.mono ?_; rintro e w2 ⟨rfl, ho2, hg2⟩; have HO2 := hide ho2; have HGr := hide hg2; clear hmp ho2 hg2 d0 d1 d2 d3 g2))
      have T5 := TreeOwn.turned (cap := cap) (w' := w2) (by rw [List.length_set, hdl]; exact HT4.out) (j := j) (by rw [List.length_set]; exact hjd) ⟨(K : Int), (K : Int) + 1, mt (K + 2), n.props, n.pao, n.pcap⟩ (by rw [List.getElem_set_self]) (markP (K + 3) n.props.length) (markP_len _ _) HGr.out HO2.out
      rw [List.set_set, List.length_set, hdl] at T5
      have hmx : d.set j ⟨(K : Int), (K : Int) + 1, mt (K + 2), markP (K + 3) n.props.length, n.pao, n.pcap⟩ = mixG (markN k0 l) l (j + 1) := by
        have e := mixG_set HML.out h (by rw [HML.out]; exact h)
        rw [markN_get (by rw [HML.out]; exact h) h, HK.out, HN.out, HD.out] at e
        exact e
      have HT5 : Hid (TreeOwn w2 base (.slice (some ⟨g, 0, none⟩) l.length cap) (mixG (markN k0 l) l (j + 1))) := ⟨by rw [← hmx]; exact T5⟩
      have HEn : Hid (endN k0 (l.take (j + 1)) = K + 3 + 2 * n.props.length) := ⟨by rw [endN_take h, HK.out, HN.out]⟩
      have HG5 : Hid (Twixt base top w w2) := ⟨HG4.out.trans (Twixt.grown HGr.out (fun b e => by
        refine ⟨(HX4.out.lt b e).1, ?_⟩
        cases hpa : n.pao with
        | none => rw [hpa] at e; cases e
        | some x =>
          rw [hpa] at e
          have e2 : x.block = b := Option.some.inj e
          rw [← e2]
          exact HU.out.2 n (by rw [← HN.out]; exact List.getElem_mem h) x hpa))⟩
      clear T5 hmx
      go_roundw
      case rel =>
        refine ⟨j + 1, by omega, by go_num, ?_, HT5.out, HG5.out⟩
        have := HEn.out
        refine congrArg (Value.int .i64) ?_
        omega
      case measure => simp [intOf]; omega
    · obtain rfl : j = l.length := by omega
      have HF : Hid (endN k0 l = K) := ⟨by have := HK.out; rwa [List.take_length] at this⟩
      go_wp2
      go_ret
      exact ⟨by rw [HF.out]; rfl, by have := hR; rwa [mixG_all HML.out] at this, HG.out⟩
end Go.Proofs.Ytcpgkalafkhlgae.OpR
namespace Go.Proofs.Ytcpgkalafkhlgae.OpR
open Go.ChangeShapes Go.WideShapes Go.ChangeAt Go.RowKit
set_option linter.unusedVariables false

set_option maxRecDepth 100000 in
theorem markNodeS_none (k0 : Nat) (w : World) (hk2 : k0 ≤ 1048576) :
    Calls Try.prog 69 #[.slice none 0 0, .int .i64 (k0 : Int)] w fun e w' => e = .returned (.int .i64 (k0 : Int)) ∧ w = w' := by
  go_enter Try.func69, Try.ntmps69
  go_wp2
  go_loopw [1, 5] (fun kv i wr => i = .int .i64 0 ∧ kv = .int .i64 (k0 : Int) ∧ wr = w) (fun _ i _ => 0)
  case atStart => exact ⟨rfl, rfl, rfl⟩
  case round =>
    obtain ⟨rfl, rfl, rfl⟩ := hrel
    go_wp2
    go_ret
    exact ⟨rfl, rfl⟩
theorem markNodeS_any (l : List NodG) (ao : Option Addr) (cap base top k0 : Nat) (w : World) (hl : l.length ≤ 1048576) (hp : ∀ n ∈ l, n.props.length ≤ 1048576) (hk : 0 < k0) (hk2 : k0 ≤ 1048576) (hO : TreeOwn w base (.slice ao l.length cap) l) (hU : Under top (.slice ao l.length cap) l) :
    Calls Try.prog 69 #[.slice ao l.length cap, .int .i64 (k0 : Int)] w fun e w' => e = .returned (.int .i64 (endN k0 l : Int)) ∧ TreeOwn w' base (.slice ao l.length cap) (markN k0 l) ∧ Twixt base top w w' := by
  rcases hO.row.2 with ⟨e, hn⟩ | ⟨g, cap', cur, e, hb, hg, h1, h2, h3, h4⟩
  · obtain rfl : l = [] := List.eq_nil_of_length_eq_zero hn
    simp only [Value.slice.injEq] at e
    obtain ⟨rfl, _, rfl⟩ := e
    refine (markNodeS_none k0 w hk2).mono ?_
    rintro e w' ⟨rfl, rfl⟩
    exact ⟨rfl, hO, Twixt.refl _ _ _⟩
  · simp only [Value.slice.injEq] at e
    obtain ⟨rfl, _, rfl⟩ := e
    exact markNodeS_some l g cap base top k0 w hl hp hk hk2 hO hU
set_option maxRecDepth 100000 in
set_option maxHeartbeats 1000000 in
theorem markTree_any (l : List NodG) (ao : Option Addr) (cap base top k0 : Nat) (w : World) (hl : l.length ≤ 1048576) (hp : ∀ n ∈ l, n.props.length ≤ 1048576) (hk : 0 < k0) (hk2 : k0 ≤ 1048576) (hO : TreeOwn w base (.slice ao l.length cap) l) (hU : Under top (.slice ao l.length cap) l) :
    Calls Try.prog 29 #[.agg #[.slice ao l.length cap], .int .i64 (k0 : Int)] w fun e w' => e = .returned (.int .i64 (endN k0 l : Int)) ∧ TreeOwn w' base (.slice ao l.length cap) (markN k0 l) ∧ Twixt base top w w' := by
  have hmk := fun W (hW : Below w.heap.size w W) => markNodeS_any l ao cap base top k0 W hl hp hk hk2 (hO.stays hW) hU
  have HMK := hide hmk
  have H1 := hide (Box1.start w (.slice ao l.length cap) 43)
  have hE : endN k0 l ≤ 2200000000000 := by have := endN_le k0 l hp; omega
  clear hmk hO hU hp
  go_enter Try.func29, Try.ntmps29
  go_wp2_with (first | (go_at_call 69; refine (HMK.out _ H1.out.below).mono ?_; rintro e w1 ⟨rfl, ht1, hg1⟩; have HT := hide ht1; have HG := hide hg1; clear ht1 hg1))
  go_ret
  exact ⟨rfl, HT.out, (Twixt.of H1.out.below).trans HG.out⟩

set_option maxRecDepth 100000 in
set_option maxHeartbeats 1000000 in
theorem heldNodeS_any (l : List NodG) (k0 cap : Nat) (ao : Option Addr) (w : World) (hl : l.length ≤ 1048576) (hp : ∀ n ∈ l, n.props.length ≤ 1048576) (hk : 0 < k0) (hk2 : k0 ≤ 1048576) (hA : NodesAt w ao (markN k0 l)) :
    Calls Try.prog 70 #[.slice ao l.length cap, .int .i64 (k0 : Int)] w fun e w' => e = .returned (.int .i64 (endN k0 l : Int)) ∧ Below w.heap.size w w' := by
  have HA := hide hA
  have HP := hide hp
  clear hA hp
  go_enter Try.func70, Try.ntmps70
  go_wp2
  go_loopw [1, 5] (fun kv i wr => ∃ j : Nat, j ≤ l.length ∧ i = .int .i64 j ∧ kv = .int .i64 (endN k0 (l.take j) : Int) ∧ Below w.heap.size w wr) (fun _ i _ => l.length - (intOf i).toNat)
  case atStart => exact ⟨0, by omega, rfl, rfl, Below.refl _ _⟩
  case round =>
    obtain ⟨j, hj, rfl, rfl, hb⟩ := hrel
    obtain ⟨K, hK⟩ : ∃ K, endN k0 (l.take j) = K := ⟨_, rfl⟩
    have HK := hide hK
    have hK2 : K ≤ 2200000000000 := by
      have := endN_le k0 (l.take j) (fun n hn => HP.out n (List.mem_of_mem_take hn))
      rw [List.length_take] at this
      omega
    have hK0 : 0 < K := by have := endN_ge k0 (l.take j); omega
    rw [hK]
    clear hK
    by_cases h : j < l.length
    · have hi0 : (0 : Int) ≤ (j : Int) := by omega
      have hi1 : (j : Int) < (l.length : Int) := by omega
      obtain ⟨n, hn⟩ : ∃ n, l[j] = n := ⟨_, rfl⟩
      have hnp : n.props.length ≤ 1048576 := by rw [← hn]; exact HP.out _ (List.getElem_mem h)
      have HEn : Hid (endN k0 (l.take (j + 1)) = K + 3 + 2 * n.props.length) := ⟨by rw [endN_take h, HK.out, hn]⟩
      obtain ⟨b, off, rfl, hlt, ho, hP⟩ := HA.out j (by rw [markN_len]; exact h)
      rw [markN_get (by rw [markN_len]; exact h) h, HK.out, hn] at ho hP
      have HO := hide ho
      have HPr : Hid (PropsAt w n.pao (markP (K + 3) n.props.length)) := ⟨hP⟩
      obtain ⟨c0, c1, c2, c3⟩ := ho.block (w' := wr) (hb.block b hlt)
      simp only [mark1, markP_len] at c0 c1 c2 c3
      clear ho hP hn
      have hT : ∀ w, Calls Try.prog 50 #[.int .i64 ((K : Int) + 1 + 1)] w fun e w' => e = .returned (.string (mt (K + 2))) ∧ Below w.heap.size w w' := fun w => by
        rw [show (K : Int) + 1 + 1 = ((K + 2 : Nat) : Int) by omega]
        exact markText_any (K + 2) (by omega) (by omega) w
      have hH : ∀ W, Below w.heap.size w W → Calls Try.prog 106 #[.slice n.pao n.props.length n.pcap, .int .i64 ((K : Int) + 1 + 1 + 1)] W fun e w' => e = .returned (.int .i64 ((K + 3 + 2 * n.props.length : Nat) : Int)) ∧ Below W.heap.size W w' := fun W hW => by
        rw [show (K : Int) + 1 + 1 + 1 = ((K + 3 : Nat) : Int) by omega]
        exact heldPropS_any n.props.length (K + 3) n.pcap n.pao W hnp (by omega) (by omega) (HPr.out.stays hW)
      have HH := hide hH
      clear hH
      go_wp2
      go_region_with (go_at_call 50; refine (hT wr.drew).mono ?_; rintro e w1 ⟨rfl, hb1⟩; have hB1 := hb.drew.trans (hb1.mono hb.size); obtain ⟨d0, d1, d2, d3⟩ := HO.out.block (w' := w1) (hB1.block b hlt); simp only [mark1, markP_len] at d0 d1 d2 d3)
      all_goals (
        clear hT c0 c1 c2 c3
        have HB1 := hide hB1
        clear hB1
        go_wp2_with (first | (go_at_call 106; refine (HH.out _ HB1.out).mono ?_; rintro e w2 ⟨rfl, hb2⟩; have HB2 := hide (HB1.out.trans (hb2.mono HB1.out.size)); clear hb2))
        go_roundw
        case rel =>
          refine ⟨j + 1, by omega, by go_num, ?_, HB2.out⟩
          have := HEn.out
          refine congrArg (Value.int .i64) ?_
          omega
        case measure => simp [intOf]; omega)
    · obtain rfl : j = l.length := by omega
      have HF : Hid (endN k0 l = K) := ⟨by have := HK.out; rwa [List.take_length] at this⟩
      go_wp2
      go_ret
      exact ⟨by rw [HF.out]; rfl, hb⟩
set_option maxRecDepth 100000 in
set_option maxHeartbeats 1000000 in
theorem heldTree_any (l : List NodG) (k0 cap : Nat) (ao : Option Addr) (w : World) (hl : l.length ≤ 1048576) (hp : ∀ n ∈ l, n.props.length ≤ 1048576) (hk : 0 < k0) (hk2 : k0 ≤ 1048576) (hA : NodesAt w ao (markN k0 l)) :
    Calls Try.prog 30 #[.agg #[.slice ao l.length cap], .int .i64 (k0 : Int)] w fun e w' => e = .returned (.int .i64 (endN k0 l : Int)) ∧ Below w.heap.size w w' := by
  have hhd := fun W (hW : Below w.heap.size w W) => heldNodeS_any l k0 cap ao W hl hp hk hk2 (hA.stays hW)
  have HHD := hide hhd
  have H1 := hide (Box1.start w (.slice ao l.length cap) 43)
  have hE : endN k0 l ≤ 2200000000000 := by have := endN_le k0 l hp; omega
  obtain ⟨E, hEe⟩ : ∃ E, endN k0 l = E := ⟨_, rfl⟩
  rw [hEe] at hE HHD ⊢
  have hE0 : (0 : Int) ≤ (E : Int) := by omega
  clear hhd hA hp hEe
  go_enter Try.func30, Try.ntmps30
  go_wp2_with (first | (go_at_call 70; refine (HHD.out _ H1.out.below).mono ?_; rintro e w1 ⟨rfl, hb1⟩))
  go_ret
  exact ⟨rfl, (H1.out.step hb1).below⟩
end Go.Proofs.Ytcpgkalafkhlgae.OpR
namespace Go.Proofs.Ytcpgkalafkhlgae.OpR
open Go.ChangeShapes Go.WideShapes Go.ChangeAt Go.RowKit
set_option linter.unusedVariables false

/-- How large trees are that the harness compares and marks. -/
def SzT (l : List NodG) : Prop := l.length ≤ 1048576 ∧ ∀ n ∈ l, n.props.length ≤ 1048576
theorem SzT.alike {l d : List NodG} (h : SzT l) (hb : d.map NodG.bare = l.map NodG.bare) : SzT d :=
  ⟨by rw [bare_len hb]; exact h.1, fun n hn => by obtain ⟨m, hm, e⟩ := bare_mem hb hn; rw [(bare_eq e).2.2.2]; exact h.2 m hm⟩
theorem right_szT {l : List NodG} (h : TreeR l) : SzT l :=
  ⟨by have := h.1; omega, fun n hn => by have := (nodOk_parts (h.2.2 n hn)).props.1; omega⟩
theorem treeDo_szT {l : List NodG} (h : SzT l) (o : OpV) : SzT (treeDo l o) := by
  unfold treeDo
  split
  · rename_i hc
    rw [Bool.and_eq_true] at hc
    exact right_szT (tdo_right ((treeR_iff l).1 hc.1) (opOk_of hc.2) _ _)
  · exact h
theorem treeOf_szT (l : List OpV) : SzT (treeOf l) := by
  unfold treeOf
  split
  · rename_i hc
    have hR := (log_iff l).1 hc
    have := right_szT (tof_right hR.1 l.length (Nat.le_refl _))
    rwa [List.take_length] at this
  · exact ⟨by simp, fun n hn => absurd hn (by simp)⟩
/-- Variables. -/
def VarsAt (c : World) (bs : List (Nat × Obj)) : Prop := ∀ p ∈ bs, c.heap[p.1]? = some p.2
structure St (w c : World) (bs : List (Nat × Obj)) : Prop where
  below : Below w.heap.size w c
  vars : VarsAt c bs
theorem St.step {w c c' : World} {bs : List (Nat × Obj)} (h : St w c bs) (hb : Below c.heap.size c c') : St w c' bs :=
  ⟨h.below.trans (hb.mono h.below.size), fun p hp => (hb.block p.1 (Array.getElem?_eq_some_iff.1 (h.vars p hp)).1).trans (h.vars p hp)⟩
theorem St.drew {w c : World} {bs : List (Nat × Obj)} (h : St w c bs) : St w c.drew bs := ⟨h.below.drew, h.vars⟩
theorem St.twixt {w c c' : World} {base top : Nat} {bs : List (Nat × Obj)} (h : St w c bs) (ht : Twixt base top c c') (hb : w.heap.size ≤ base) (hn : ∀ p ∈ bs, p.1 < base ∨ top ≤ p.1) : St w c' bs := by
  have hs := h.below.size
  exact ⟨⟨ht.os.trans h.below.os, ht.tape.trans h.below.tape, ht.output.trans h.below.output, Nat.le_trans hs ht.size, fun k hk => (ht.block k (by omega) (.inl (by omega))).trans (h.below.block k hk)⟩, fun p hp => (ht.block p.1 (Array.getElem?_eq_some_iff.1 (h.vars p hp)).1 (hn p hp)).trans (h.vars p hp)⟩
theorem St.new {w c : World} {bs : List (Nat × Obj)} (h : St w c bs) (o : Obj) : St w (c.alloc o) ((c.heap.size, o) :: bs) :=
  ⟨h.below.alloc h.below.size o, fun p hp => by
    rcases List.mem_cons.1 hp with rfl | hp
    · exact heap_alloc_new c o
    · exact (Below.heap_alloc c o p.1 (Array.getElem?_eq_some_iff.1 (h.vars p hp)).1).trans (h.vars p hp)⟩
theorem St.bare {w c : World} (h : Below w.heap.size w c) : St w c [] := ⟨h, fun p hp => absurd hp (by simp)⟩
theorem St.one {w c : World} {bs : List (Nat × Obj)} (h : St w c bs) {b : Nat} {v : Value} {T : TypeId} (hm : (b, Obj.cells #[v] T) ∈ bs) : c.cell? ⟨b, 0, none⟩ = some v := (cells1 (h.vars _ hm)).1
theorem St.lt {w c : World} {bs : List (Nat × Obj)} (h : St w c bs) {p : Nat × Obj} (hm : p ∈ bs) : p.1 < c.heap.size := (Array.getElem?_eq_some_iff.1 (h.vars p hm)).1
theorem St.op {w c : World} {bs : List (Nat × Obj)} (h : St w c bs) {b : Nat} {o : OpV} {T : TypeId} (hm : (b, Obj.cells #[.int .i64 o.time, .int .i64 o.repl, .int .i64 o.kind, .int .i64 o.node, .int .i64 o.parent, .string o.name, .string o.value] T) ∈ bs) : c.cell? ⟨b, 0, none⟩ = some (.int .i64 o.time) ∧ c.cell? ⟨b, 1, none⟩ = some (.int .i64 o.repl) ∧ c.cell? ⟨b, 2, none⟩ = some (.int .i64 o.kind) ∧ c.cell? ⟨b, 3, none⟩ = some (.int .i64 o.node) ∧ c.cell? ⟨b, 4, none⟩ = some (.int .i64 o.parent) ∧ c.cell? ⟨b, 5, none⟩ = some (.string o.name) ∧ c.cell? ⟨b, 6, none⟩ = some (.string o.value) := by
  have e := h.vars _ hm
  refine ⟨?_, ?_, ?_, ?_, ?_, ?_, ?_⟩ <;> simp [World.cell?, e]

/-- A tree that is looked at alone, all of it below N. -/
structure Lies (N : Nat) (c : World) (ao : Option Addr) (l : List NodG) : Prop where
  at_ : NodesAt c ao l
  low : ∀ j (hj : j < l.length) a, ao = some a → a.block < N
  plow : ∀ n ∈ l, n.props ≠ [] → ∀ a, n.pao = some a → a.block < N
theorem Lies.of {c : World} {ao : Option Addr} {l : List NodG} (h : NodesAt c ao l) : Lies c.heap.size c ao l :=
  ⟨h, fun j hj a ha => by obtain ⟨b, off, e, hlt, _⟩ := h j hj; rw [ha] at e; cases e; exact hlt, fun n hn hne a ha => by
    obtain ⟨b, off, e, hlt, _⟩ := h.props n hn 0 (List.length_pos_iff.2 hne)
    rw [ha] at e
    cases e
    exact hlt⟩
theorem Lies.step {N : Nat} {c c' : World} {ao : Option Addr} {l : List NodG} (h : Lies N c ao l) (hb : Below c.heap.size c c') : Lies N c' ao l := ⟨h.at_.stays hb, h.low, h.plow⟩
theorem Lies.drew {N : Nat} {c : World} {ao : Option Addr} {l : List NodG} (h : Lies N c ao l) : Lies N c.drew ao l := h.step (Below.refl _ _).drew
theorem Lies.twixt {N base top : Nat} {c c' : World} {ao : Option Addr} {l : List NodG} (h : Lies N c ao l) (ht : Twixt base top c c') (hN : N ≤ base) : Lies N c' ao l := by
  refine ⟨fun j hj => ?_, h.low, h.plow⟩
  obtain ⟨b, off, e, hlt, ho, hp⟩ := h.at_ j hj
  have hbN : b < N := h.low j hj _ e
  refine ⟨b, off, e, Nat.lt_of_lt_of_le hlt ht.size, ho.block (ht.block b hlt (.inl (by omega))), fun i hi => ?_⟩
  obtain ⟨b2, off2, e2, hlt2, ho2⟩ := hp i hi
  have hb2 : b2 < N := h.plow l[j] (List.getElem_mem hj) (fun e => by rw [e] at hi; simp at hi) _ e2
  exact ⟨b2, off2, e2, Nat.lt_of_lt_of_le hlt2 ht.size, ho2.block (ht.block b2 hlt2 (.inl (by omega)))⟩
theorem owns_keeps {w w' : World} {base : Nat} {e : TypeId} {size : Nat} {v : Value} {n : Nat} {xs : List Value} (h : w.ownsRow base e size v n xs) (he : ∀ g, base ≤ g → g < w.heap.size → w'.heap[g]? = w.heap[g]?) : w'.ownsRow base e size v n xs :=
  ⟨h.1, h.2.imp id fun ⟨g, cap, cur, e1, hb, hg, r⟩ => ⟨g, cap, cur, e1, hb, (he g hb (Array.getElem?_eq_some_iff.1 hg).1).trans hg, r⟩⟩
theorem TreeOwn.keeps {w w' : World} {base : Nat} {v : Value} {l : List NodG} (h : TreeOwn w base v l) (he : ∀ g, base ≤ g → g < w.heap.size → w'.heap[g]? = w.heap[g]?) : TreeOwn w' base v l :=
  ⟨owns_keeps h.row he, fun n hn => owns_keeps (h.props n hn) he, h.apart, h.off⟩
theorem TreeOwn.twixt {w w' : World} {b base top : Nat} {v : Value} {l : List NodG} (h : TreeOwn w b v l) (ht : Twixt base top w w') (hb : top ≤ b) : TreeOwn w' b v l := h.keeps (fun g hg hl => ht.block g hl (.inr (by omega)))
end Go.Proofs.Ytcpgkalafkhlgae.OpR
namespace Go.Proofs.Ytcpgkalafkhlgae.OpR
open Go.ChangeShapes Go.WideShapes Go.ChangeAt Go.RowKit
set_option linter.unusedVariables false

/-- An op that is marked from k on. -/
def mk (k : Nat) : OpV := ⟨(k : Int), (k : Int) + 1, (k : Int) + 1 + 1, (k : Int) + 1 + 1 + 1, (k : Int) + 1 + 1 + 1 + 1, mt (k + 5), mt (k + 6)⟩
def marks (k n : Nat) : List OpV := (List.range n).map fun j => mk (k + 7 * j)
theorem marks_len (k n : Nat) : (marks k n).length = n := by simp [marks]
theorem marks_get {k n j : Nat} (h : j < (marks k n).length) : (marks k n)[j] = mk (k + 7 * j) := by simp [marks]

/-- A block of cells, none frozen. -/
def RowB (w : World) (b : Nat) (T : TypeId) (n : Nat) : Prop := ∃ cs, w.heap[b]? = some (.cells cs T (0, 0)) ∧ cs.size = n
theorem RowB.lt {w : World} {b : Nat} {T : TypeId} {n : Nat} (h : RowB w b T n) : b < w.heap.size := by
  obtain ⟨cs, e, _⟩ := h
  exact (Array.getElem?_eq_some_iff.1 e).1
theorem RowB.cell {w : World} {b : Nat} {T : TypeId} {n : Nat} (h : RowB w b T n) {i : Nat} (hi : i < n) : ∃ v, w.cell? ⟨b, i, none⟩ = some v := by
  obtain ⟨cs, e, rfl⟩ := h
  exact ⟨cs[i], by simp [World.cell?, e, hi]⟩
theorem RowB.free {w : World} {b : Nat} {T : TypeId} {n : Nat} (h : RowB w b T n) (i : Nat) : w.frozen? ⟨b, i, none⟩ = false := by
  obtain ⟨cs, e, _⟩ := h
  simp [World.frozen?, e]
theorem RowB.set {w : World} {b : Nat} {T : TypeId} {n : Nat} (h : RowB w b T n) (i : Nat) (v : Value) : RowB (w.setCell ⟨b, i, none⟩ v) b T n := by
  obtain ⟨cs, e, rfl⟩ := h
  exact ⟨_, set_block e i v, by simp⟩
theorem RowB.below {w w' : World} {b : Nat} {T : TypeId} {n : Nat} (h : RowB w b T n) (hb : Below w.heap.size w w') : RowB w' b T n := by
  have hlt := h.lt
  obtain ⟨cs, e, hn⟩ := h
  exact ⟨cs, (hb.block b hlt).trans e, hn⟩
theorem OpAt.other {w : World} {b p q : Nat} {o : OpV} {v : Value} (h : OpAt w b p o) (hne : q < p ∨ p + 7 ≤ q) : OpAt (w.setCell ⟨b, q, none⟩ v) b p o := by
  obtain ⟨h0, h1, h2, h3, h4, h5, h6⟩ := h
  have e : ∀ i, i < 7 → (w.setCell ⟨b, q, none⟩ v).cell? ⟨b, p + i, none⟩ = w.cell? ⟨b, p + i, none⟩ := fun i hi => World.cell?_setCell_other w ⟨b, q, none⟩ ⟨b, p + i, none⟩ v (by intro e; injection e; omega)
  exact ⟨(e 0 (by omega)).trans h0, (e 1 (by omega)).trans h1, (e 2 (by omega)).trans h2, (e 3 (by omega)).trans h3, (e 4 (by omega)).trans h4, (e 5 (by omega)).trans h5, (e 6 (by omega)).trans h6⟩

theorem setc_same {w : World} {b N i : Nat} {T : TypeId} {v : Value} (h : RowB w b T N) (hi : i < N) : (w.setCell ⟨b, i, none⟩ v).cell? ⟨b, i, none⟩ = some v := by
  obtain ⟨u, hu⟩ := h.cell hi
  exact World.cell?_setCell_same w ⟨b, i, none⟩ v hu
theorem setc_other {w : World} {b i j : Nat} {v : Value} (h : j ≠ i) : (w.setCell ⟨b, j, none⟩ v).cell? ⟨b, i, none⟩ = w.cell? ⟨b, i, none⟩ :=
  World.cell?_setCell_other w ⟨b, j, none⟩ ⟨b, i, none⟩ v (by intro e; injection e; omega)
theorem grown_set (W : World) (b i : Nat) (v : Value) : W.grownBy (W.setCell ⟨b, i, none⟩ v) (some b) :=
  ⟨rfl, rfl, rfl, by simp, fun k hk hne => heap_setCell_other W ⟨b, i, none⟩ k v (fun e => hne (by rw [e]))⟩
theorem grown_refl (W : World) (r : Option Nat) : W.grownBy W r := ⟨rfl, rfl, rfl, Nat.le_refl _, fun _ _ _ => rfl⟩
theorem grown_trans {a b c : World} {r : Option Nat} (h : a.grownBy b r) (k : b.grownBy c r) : a.grownBy c r :=
  ⟨k.os.trans h.os, k.tape.trans h.tape, k.output.trans h.output, Nat.le_trans h.size k.size, fun i hi hn => (k.block i (Nat.lt_of_lt_of_le hi h.size) hn).trans (h.block i hi hn)⟩
theorem mk_below {a b : World} {r : Option Nat} (h : Below a.heap.size a b) : a.grownBy b r := ⟨h.os, h.tape, h.output, h.size, fun i hi _ => h.block i hi⟩

def five (wr : World) (b p : Nat) (v0 v1 v2 v3 v4 : Value) : World := ((((wr.setCell ⟨b, p, none⟩ v0).setCell ⟨b, p + 1, none⟩ v1).setCell ⟨b, p + 2, none⟩ v2).setCell ⟨b, p + 3, none⟩ v3).setCell ⟨b, p + 4, none⟩ v4
theorem five_row {wr : World} {b p N : Nat} {T : TypeId} {v0 v1 v2 v3 v4 : Value} (h : RowB wr b T N) : RowB (five wr b p v0 v1 v2 v3 v4) b T N := ((((h.set _ _).set _ _).set _ _).set _ _).set _ _
theorem five_grown {wr : World} {b p : Nat} {v0 v1 v2 v3 v4 : Value} : wr.grownBy (five wr b p v0 v1 v2 v3 v4) (some b) :=
  grown_trans (grown_trans (grown_trans (grown_trans (grown_set _ _ _ _) (grown_set _ _ _ _)) (grown_set _ _ _ _)) (grown_set _ _ _ _)) (grown_set _ _ _ _)
theorem five_cell {wr : World} {b p N : Nat} {T : TypeId} {v0 v1 v2 v3 v4 : Value} (h : RowB wr b T N) (hp : p + 5 ≤ N) :
    (five wr b p v0 v1 v2 v3 v4).cell? ⟨b, p, none⟩ = some v0 ∧ (five wr b p v0 v1 v2 v3 v4).cell? ⟨b, p + 1, none⟩ = some v1 ∧ (five wr b p v0 v1 v2 v3 v4).cell? ⟨b, p + 2, none⟩ = some v2 ∧ (five wr b p v0 v1 v2 v3 v4).cell? ⟨b, p + 3, none⟩ = some v3 ∧ (five wr b p v0 v1 v2 v3 v4).cell? ⟨b, p + 4, none⟩ = some v4 := by
  unfold five
  refine ⟨?_, ?_, ?_, ?_, ?_⟩
  · rw [setc_other (by omega), setc_other (by omega), setc_other (by omega), setc_other (by omega), setc_same h (by omega)]
  · rw [setc_other (by omega), setc_other (by omega), setc_other (by omega), setc_same (h.set _ _) (by omega)]
  · rw [setc_other (by omega), setc_other (by omega), setc_same ((h.set _ _).set _ _) (by omega)]
  · rw [setc_other (by omega), setc_same (((h.set _ _).set _ _).set _ _) (by omega)]
  · rw [setc_same ((((h.set _ _).set _ _).set _ _).set _ _) (by omega)]
theorem five_other {wr : World} {b p q : Nat} {o : OpV} {v0 v1 v2 v3 v4 : Value} (h : OpAt wr b q o) (hn : q + 7 ≤ p ∨ p + 7 ≤ q) : OpAt (five wr b p v0 v1 v2 v3 v4) b q o :=
  ((((h.other (by omega)).other (by omega)).other (by omega)).other (by omega)).other (by omega)
/-- What the seven stores of a mark leave. -/
theorem mark_done {wr w1 w2 : World} {b p N K : Nat} {T : TypeId} (h : RowB wr b T N) (hp : p + 7 ≤ N)
    (hb1 : Below (five wr b p (.int .i64 (K : Int)) (.int .i64 ((K : Int) + 1)) (.int .i64 ((K : Int) + 1 + 1)) (.int .i64 ((K : Int) + 1 + 1 + 1)) (.int .i64 ((K : Int) + 1 + 1 + 1 + 1))).heap.size (five wr b p (.int .i64 (K : Int)) (.int .i64 ((K : Int) + 1)) (.int .i64 ((K : Int) + 1 + 1)) (.int .i64 ((K : Int) + 1 + 1 + 1)) (.int .i64 ((K : Int) + 1 + 1 + 1 + 1))) w1)
    (hb2 : Below (w1.setCell ⟨b, p + 5, none⟩ (.string (mt (K + 5)))).heap.size (w1.setCell ⟨b, p + 5, none⟩ (.string (mt (K + 5)))) w2) :
    OpAt (w2.setCell ⟨b, p + 6, none⟩ (.string (mt (K + 6)))) b p (mk K) ∧ RowB (w2.setCell ⟨b, p + 6, none⟩ (.string (mt (K + 6)))) b T N ∧ wr.grownBy (w2.setCell ⟨b, p + 6, none⟩ (.string (mt (K + 6)))) (some b) ∧ ∀ q o, (q + 7 ≤ p ∨ p + 7 ≤ q) → OpAt wr b q o → OpAt (w2.setCell ⟨b, p + 6, none⟩ (.string (mt (K + 6)))) b q o := by
  have r5 := five_row (p := p) (v0 := .int .i64 (K : Int)) (v1 := .int .i64 ((K : Int) + 1)) (v2 := .int .i64 ((K : Int) + 1 + 1)) (v3 := .int .i64 ((K : Int) + 1 + 1 + 1)) (v4 := .int .i64 ((K : Int) + 1 + 1 + 1 + 1)) h
  have r1 := r5.below hb1
  have r6 := r1.set (p + 5) (.string (mt (K + 5)))
  have r2 := r6.below hb2
  obtain ⟨c0, c1, c2, c3, c4⟩ := five_cell (p := p) (v0 := .int .i64 (K : Int)) (v1 := .int .i64 ((K : Int) + 1)) (v2 := .int .i64 ((K : Int) + 1 + 1)) (v3 := .int .i64 ((K : Int) + 1 + 1 + 1)) (v4 := .int .i64 ((K : Int) + 1 + 1 + 1 + 1)) h (by omega)
  have e1 : ∀ i, w1.cell? ⟨b, i, none⟩ = (five wr b p (.int .i64 (K : Int)) (.int .i64 ((K : Int) + 1)) (.int .i64 ((K : Int) + 1 + 1)) (.int .i64 ((K : Int) + 1 + 1 + 1)) (.int .i64 ((K : Int) + 1 + 1 + 1 + 1))).cell? ⟨b, i, none⟩ := fun i => hb1.cell r5.lt
  have e2 : ∀ i, w2.cell? ⟨b, i, none⟩ = (w1.setCell ⟨b, p + 5, none⟩ (.string (mt (K + 5)))).cell? ⟨b, i, none⟩ := fun i => hb2.cell r6.lt
  refine ⟨⟨?_, ?_, ?_, ?_, ?_, ?_, ?_⟩, r2.set _ _, ?_, fun q o hn ho => ?_⟩
  · rw [setc_other (by omega), e2, setc_other (by omega), e1, c0]; rfl
  · rw [setc_other (by omega), e2, setc_other (by omega), e1, c1]; rfl
  · rw [setc_other (by omega), e2, setc_other (by omega), e1, c2]; rfl
  · rw [setc_other (by omega), e2, setc_other (by omega), e1, c3]; rfl
  · rw [setc_other (by omega), e2, setc_other (by omega), e1, c4]; rfl
  · rw [setc_other (by omega), e2, setc_same r1 (by omega)]; rfl
  · rw [setc_same r2 (by omega)]; rfl
  · exact grown_trans (grown_trans (grown_trans (grown_trans five_grown (mk_below hb1)) (grown_set _ _ _ _)) (mk_below hb2)) (grown_set _ _ _ _)
  · exact ((((five_other ho hn).block (hb1.block b r5.lt)).other (by omega)).block (hb2.block b r6.lt)).other (by omega)

set_option maxRecDepth 100000 in
set_option maxHeartbeats 400000 in
theorem markOpS_some (b off n cap k0 N : Nat) (T : TypeId) (w : World) (hn : n ≤ 1048576) (hk : 0 < k0) (hk2 : k0 ≤ 1099511627776 / 2) (hR : RowB w b T N) (hN : off + n * 7 ≤ N) :
    Calls Try.prog 19 #[.slice (some ⟨b, off, none⟩) n cap, .int .i64 (k0 : Int)] w fun e w' => e = .returned (.int .i64 ((k0 + 7 * n : Nat) : Int)) ∧ OpsAt w' (some ⟨b, off, none⟩) (marks k0 n) ∧ RowB w' b T N ∧ w.grownBy w' (some b) := by
  have HR : Hid (RowB w b T N) := ⟨hR⟩
  clear hR
  go_enter Try.func19, Try.ntmps19
  go_wp2
  go_loopw [1, 5] (fun kv i wr => ∃ j : Nat, j ≤ n ∧ i = .int .i64 j ∧ kv = .int .i64 ((k0 + 7 * j : Nat) : Int) ∧ (∀ q, q < j → OpAt wr b (off + q * 7) (mk (k0 + 7 * q))) ∧ RowB wr b T N ∧ w.grownBy wr (some b)) (fun _ i _ => n - (intOf i).toNat)
  case atStart => exact ⟨0, by omega, rfl, by go_num, fun q hq => by omega, HR.out, grown_refl _ _⟩
  case round =>
    obtain ⟨j, hj, rfl, rfl, hm, hR, hg⟩ := hrel
    have HM : Hid (∀ q, q < j → OpAt wr b (off + q * 7) (mk (k0 + 7 * q))) := ⟨hm⟩
    have HR' : Hid (RowB wr b T N) := ⟨hR⟩
    clear hm hR
    obtain ⟨K, hK⟩ : ∃ K, k0 + 7 * j = K := ⟨_, rfl⟩
    have HK : Hid (k0 + 7 * j = K) := ⟨hK⟩
    have hK2 : K ≤ 1099511627770 := by omega
    have hK0 : 0 < K := by omega
    rw [hK]
    clear hK
    by_cases h : j < n
    · have hi0 : (0 : Int) ≤ (j : Int) := by omega
      have hi1 : (j : Int) < (n : Int) := by omega
      obtain ⟨v0, c0⟩ := HR'.out.cell (i := off + j * 7) (by omega)
      obtain ⟨v1, c1⟩ := HR'.out.cell (i := off + j * 7 + 1) (by omega)
      obtain ⟨v2, c2⟩ := HR'.out.cell (i := off + j * 7 + 2) (by omega)
      obtain ⟨v3, c3⟩ := HR'.out.cell (i := off + j * 7 + 3) (by omega)
      obtain ⟨v4, c4⟩ := HR'.out.cell (i := off + j * 7 + 4) (by omega)
      obtain ⟨v5, c5⟩ := HR'.out.cell (i := off + j * 7 + 5) (by omega)
      obtain ⟨v6, c6⟩ := HR'.out.cell (i := off + j * 7 + 6) (by omega)
      have f0 := HR'.out.free (off + j * 7)
      have f1 := HR'.out.free (off + j * 7 + 1)
      have f2 := HR'.out.free (off + j * 7 + 2)
      have f3 := HR'.out.free (off + j * 7 + 3)
      have f4 := HR'.out.free (off + j * 7 + 4)
      have f5 := HR'.out.free (off + j * 7 + 5)
      have f6 := HR'.out.free (off + j * 7 + 6)
      have hT5 : ∀ w, Calls Try.prog 50 #[.int .i64 ((K : Int) + 1 + 1 + 1 + 1 + 1)] w fun e w' => e = .returned (.string (mt (K + 5))) ∧ Below w.heap.size w w' := fun w => by
        rw [show (K : Int) + 1 + 1 + 1 + 1 + 1 = ((K + 5 : Nat) : Int) by omega]
        exact markText_any (K + 5) (by omega) (by omega) w
      have hT6 : ∀ w, Calls Try.prog 50 #[.int .i64 ((K : Int) + 1 + 1 + 1 + 1 + 1 + 1)] w fun e w' => e = .returned (.string (mt (K + 6))) ∧ Below w.heap.size w w' := fun w => by
        rw [show (K : Int) + 1 + 1 + 1 + 1 + 1 + 1 = ((K + 6 : Nat) : Int) by omega]
        exact markText_any (K + 6) (by omega) (by omega) w
      have H5 := five_row (p := off + j * 7) (v0 := .int .i64 (K : Int)) (v1 := .int .i64 ((K : Int) + 1)) (v2 := .int .i64 ((K : Int) + 1 + 1)) (v3 := .int .i64 ((K : Int) + 1 + 1 + 1)) (v4 := .int .i64 ((K : Int) + 1 + 1 + 1 + 1)) HR'.out
      have HF : Hid (RowB (five wr b (off + j * 7) (.int .i64 (K : Int)) (.int .i64 ((K : Int) + 1)) (.int .i64 ((K : Int) + 1 + 1)) (.int .i64 ((K : Int) + 1 + 1 + 1)) (.int .i64 ((K : Int) + 1 + 1 + 1 + 1))) b T N) := ⟨H5⟩
      clear H5
      go_wp2_with (first | (go_at_call 50; refine (hT5 _).mono ?_; rintro e w1 ⟨rfl, hb1⟩; have R1 := HF.out.below hb1; obtain ⟨x5, d5⟩ := R1.cell (i := off + j * 7 + 5) (by omega); have g5 := R1.free (off + j * 7 + 5); have HR1 : Hid (RowB w1 b T N) := ⟨R1⟩; clear hT5 R1 c0 c1 c2 c3 c4 c5 c6 f0 f1 f2 f3 f4 f5 f6) | (go_at_call 50; refine (hT6 _).mono ?_; rintro e w2 ⟨rfl, hb2⟩; have R2 := (HR1.out.set (off + j * 7 + 5) (.string (mt (K + 5)))).below hb2; obtain ⟨x6, d6⟩ := R2.cell (i := off + j * 7 + 6) (by omega); have g6 := R2.free (off + j * 7 + 6); clear hT6 R2 d5 g5))
      go_roundw
      case rel =>
        obtain ⟨k1, k2, k3, k4⟩ := mark_done HR'.out (p := off + j * 7) (by omega) hb1 hb2
        refine ⟨j + 1, by omega, by go_num, ?_, fun q hq => ?_, k2, grown_trans hg k3⟩
        · have := HK.out
          refine congrArg (Value.int .i64) ?_
          omega
        · rcases Nat.lt_or_ge q j with h' | h'
          · exact k4 _ _ (by omega) (HM.out q h')
          · obtain rfl : q = j := by omega
            rw [HK.out]
            exact k1
      case measure => simp [intOf]; omega
    · obtain rfl : j = n := by omega
      go_wp2
      go_ret
      refine ⟨by rw [← HK.out]; rfl, fun q hq => ?_, HR'.out, hg⟩
      rw [marks_get hq]
      rw [marks_len] at hq
      exact ⟨b, off, rfl, HR'.out.lt, HM.out q hq⟩
end Go.Proofs.Ytcpgkalafkhlgae.OpR
namespace Go.Proofs.Ytcpgkalafkhlgae.OpR
open Go.ChangeShapes Go.WideShapes Go.ChangeAt Go.RowKit
set_option linter.unusedVariables false

set_option maxRecDepth 100000 in
set_option maxHeartbeats 400000 in
theorem heldOpS_any (n k0 cap : Nat) (ao : Option Addr) (w : World) (hn : n ≤ 1048576) (hk : 0 < k0) (hk2 : k0 ≤ 1099511627776 / 2) (hA : OpsAt w ao (marks k0 n)) :
    Calls Try.prog 39 #[.slice ao n cap, .int .i64 (k0 : Int)] w fun e w' => e = .returned (.int .i64 ((k0 + 7 * n : Nat) : Int)) ∧ Below w.heap.size w w' := by
  have HA : Hid (OpsAt w ao (marks k0 n)) := ⟨hA⟩
  clear hA
  go_enter Try.func39, Try.ntmps39
  go_wp2
  go_loopw [1, 5] (fun kv i wr => ∃ j : Nat, j ≤ n ∧ i = .int .i64 j ∧ kv = .int .i64 ((k0 + 7 * j : Nat) : Int) ∧ Below w.heap.size w wr) (fun _ i _ => n - (intOf i).toNat)
  case atStart => exact ⟨0, by omega, rfl, by go_num, Below.refl _ _⟩
  case round =>
    obtain ⟨j, hj, rfl, rfl, hb⟩ := hrel
    obtain ⟨K, hK⟩ : ∃ K, k0 + 7 * j = K := ⟨_, rfl⟩
    have HK : Hid (k0 + 7 * j = K) := ⟨hK⟩
    have hK2 : K ≤ 1099511627770 := by omega
    have hK0 : 0 < K := by omega
    rw [hK]
    clear hK
    by_cases h : j < n
    · have hi0 : (0 : Int) ≤ (j : Int) := by omega
      have hi1 : (j : Int) < (n : Int) := by omega
      obtain ⟨b, off, rfl, hlt, ho⟩ := HA.out j (by rw [marks_len]; exact h)
      rw [marks_get, HK.out] at ho
      obtain ⟨c0, c1, c2, c3, c4, c5, c6⟩ := ho.block (w' := wr) (hb.block b hlt)
      have HO : Hid (OpAt w b (off + j * 7) (mk K)) := ⟨ho⟩
      clear ho
      simp only [mk] at c0 c1 c2 c3 c4 c5 c6
      have hT5 : ∀ w, Calls Try.prog 50 #[.int .i64 ((K : Int) + 1 + 1 + 1 + 1 + 1)] w fun e w' => e = .returned (.string (mt (K + 5))) ∧ Below w.heap.size w w' := fun w => by
        rw [show (K : Int) + 1 + 1 + 1 + 1 + 1 = ((K + 5 : Nat) : Int) by omega]
        exact markText_any (K + 5) (by omega) (by omega) w
      have hT6 : ∀ w, Calls Try.prog 50 #[.int .i64 ((K : Int) + 1 + 1 + 1 + 1 + 1 + 1)] w fun e w' => e = .returned (.string (mt (K + 6))) ∧ Below w.heap.size w w' := fun w => by
        rw [show (K : Int) + 1 + 1 + 1 + 1 + 1 + 1 = ((K + 6 : Nat) : Int) by omega]
        exact markText_any (K + 6) (by omega) (by omega) w
      go_wp2
      go_region_with (go_at_call 50; refine (hT5 wr.drew).mono ?_; rintro e w1 ⟨rfl, hb1⟩; have hB1 := hb.drew.trans (hb1.mono hb.size); obtain ⟨_, _, _, _, _, d5, d6⟩ := HO.out.block (w' := w1) (hB1.block b hlt); simp only [mk] at d5 d6)
      all_goals (
        clear hT5 c0 c1 c2 c3 c4 c5 c6
        go_wp2
        go_region_with (go_at_call 50; refine (hT6 w1.drew).mono ?_; rintro e w2 ⟨rfl, hb2⟩; have hB2 := hB1.drew.trans (hb2.mono hB1.size); obtain ⟨_, _, _, _, _, e5, e6⟩ := HO.out.block (w' := w2) (hB2.block b hlt); simp only [mk] at e5 e6)
        all_goals (
          go_wp2
          go_roundw
          case rel =>
            refine ⟨j + 1, by omega, by go_num, ?_, hB2⟩
            have := HK.out
            refine congrArg (Value.int .i64) ?_
            omega
          case measure => simp [intOf]; omega))
    · obtain rfl : j = n := by omega
      go_wp2
      go_ret
      exact ⟨by rw [← HK.out]; rfl, hb⟩
end Go.Proofs.Ytcpgkalafkhlgae.OpR
namespace Go.Proofs.Ytcpgkalafkhlgae.OpR
open Go.ChangeShapes Go.WideShapes Go.ChangeAt Go.RowKit
set_option linter.unusedVariables false

theorem grown_twixt {a b : World} {g : Nat} (h : a.grownBy b (some g)) : Twixt g (g + 1) a b := Twixt.grown h (fun k e => by cases e; omega)
theorem opsIn_row {w : World} {g : Nat} {T : TypeId} {l : List OpV} (h : OpsIn w g T l) : RowB w g T (l.length * 7) := ⟨_, h, opsArr_size l⟩
theorem hd3_eq {d e x : List NodG} (h : d.map NodG.bare = x.map NodG.bare) (k : e.map NodG.bare = x.map NodG.bare) : d.map NodG.bare = e.map NodG.bare := h.trans k.symm
theorem TreeS.nodesAt' {w : World} {base : Nat} {ao : Option Addr} {cap : Nat} {l : List NodG} (h : TreeS w base (.slice ao l.length cap) l) : NodesAt w ao l := h.nodesAt
set_option maxRecDepth 100000 in
set_option maxHeartbeats 2000000 in
theorem law_treeOf (w : World) (ao : Option Addr) (cap : Nat) (l : List OpV) (hC : CameOps w ao l) :
    Calls Try.prog 7 #[.slice ao l.length cap] w fun e w' => e = .returned (.bool true) ∧ Below w.heap.size w w' := by
  obtain ⟨hl, hA, hS, _⟩ := hC
  have hsz := szOpS_any l ao cap w hl hA hS
  have HA : Hid (OpsAt w ao l) := ⟨hA⟩
  have HS : Hid (Sized l) := ⟨hS⟩
  have HLl : Hid (l.length ≤ maxLen) := ⟨hl⟩
  unfold maxLen at hl
  clear hA hS
  have HZt := hide (treeOf_szT l)
  go_enter Try.func7, Try.ntmps7
  go_wp2_with (first | (go_at_call 14; refine hsz.mono ?_; rintro e w1 ⟨m, rfl, hm, hb1⟩; have Hm := hide hm; have HS1 := hide (St.bare hb1); clear hm hsz hb1))
  · go_ret
    exact ⟨rfl, HS1.out.below⟩
  have Hl2 := hide (Hm.out (by omega)).1
  have hl2 := Hl2.out
  clear Hm hl
  have T1 : Hid True := ⟨trivial⟩
  have T2 : Hid True := ⟨trivial⟩
  have T3 : Hid True := ⟨trivial⟩
  have E1 : Hid True := ⟨trivial⟩
  have T4 : Hid True := ⟨trivial⟩
  have E2 : Hid True := ⟨trivial⟩
  have Q1 : Hid True := ⟨trivial⟩
  have T5 : Hid True := ⟨trivial⟩
  have I2 : Hid True := ⟨trivial⟩
  have E3 : Hid True := ⟨trivial⟩
  have Q2 : Hid True := ⟨trivial⟩
  go_wp2_with (first | (go_at_call 16; clear T1; refine (toOpS_any l ao cap w1 Hl2.out (HA.out.stays HS1.out.below)).mono ?_; rintro e w2 ⟨rfl, hx2, hb2⟩; have HS2 := hide (HS1.out.step hb2); have h3 := sTreeOf_any l _ l.length w2 HLl.out hx2.opsAt HS.out; have H3 := hide h3; clear hx2 hb2 h3) | (go_at_call 31; refine H3.out.mono ?_; rintro e w3 ⟨v3, d3, rfl, ht3, hd3, hb3⟩; obtain ⟨a3, c3, rfl, _, _⟩ := owns_atN ht3.row; have HD3 := hide hd3; have HS3 := hide ((HS2.out.step hb3).new (.cells #[.slice a3 d3.length c3] 43)); have HW3 := hide ((Lies.of ht3.nodesAt).step ((Below.refl _ _).alloc (Nat.le_refl _) (.cells #[.slice a3 d3.length c3] 43))); clear H3 ht3 hd3 hb3) | (go_at_call 16; clear T2; refine (toOpS_any l ao cap _ Hl2.out (HA.out.stays HS3.out.below)).mono ?_; rintro e w4 ⟨rfl, hx4, hb4⟩; have HS4 := hide (HS3.out.step hb4); have HW4 := hide (HW3.out.step hb4); have hx4' : OpsIn w4 (w3.heap.size + 1) 51 l := (by simpa using hx4); have HX4 := hide hx4'; have h5 := iTreeOf_any l (some ⟨w3.heap.size + 1, 0, none⟩) l.length w4 HLl.out hx4'.opsAt HS.out; have H5 := hide h5; clear hx4 hx4' hb4 h5) | (go_at_call 32; clear T3; refine H5.out.mono ?_; rintro e w5 ⟨v5, d5, rfl, ht5, hd5, hb5⟩; obtain ⟨a5, c5, rfl, _, _⟩ := owns_atN ht5.row; have HD5 := hide hd5; have HS5 := hide ((HS4.out.step hb5).new (.cells #[.slice a5 d5.length c5] 43)); have HW5 := hide ((HW4.out.step hb5).step ((Below.refl _ _).alloc (Nat.le_refl _) (.cells #[.slice a5 d5.length c5] 43))); have HU5 := hide ht5.under; have HT5 := hide (ht5.stays ((Below.refl _ _).alloc (Nat.le_refl _) (.cells #[.slice a5 d5.length c5] 43))); have HX5 := hide ((HX4.out.stays hb5).stays ((Below.refl _ _).alloc (Nat.le_refl _) (.cells #[.slice a5 d5.length c5] 43))); have q3 := HS5.out.one (b := w3.heap.size) (v := .slice a3 d3.length c3) (T := 43) (by simp); have q5 := HS5.out.one (b := w5.heap.size) (v := .slice a5 d5.length c5) (T := 43) (by simp); have hS3 := HS4.out.lt (p := (w3.heap.size, .cells #[.slice a3 d3.length c3] 43)) (by simp); have hS45 := hb5.size; have HE53 : Hid (d3.map NodG.bare = d5.map NodG.bare) := hide (hd3_eq HD3.out hd5); have HZ5 := hide (HZt.out.alike hd5); obtain ⟨E, hE⟩ : ∃ E, endN 1 d5 = E := ⟨_, rfl⟩; have HE := hide hE; have hE0 : (0 : Int) ≤ (E : Int) := (by omega); have hE1 : ¬ (E : Int) < 0 := (by omega); clear hE H5 ht5 hd5 hb5) | (go_at_call 24; clear E1; refine (eqTree_same d5 d3 _ _ _ _ _ HE53.out (by have := HZ5.out.1; unfold maxLen; omega) (fun n hn => (by have := HZ5.out.2 n hn; unfold maxLen; omega)) HT5.out.nodesAt HW5.out.at_).mono ?_; rintro e w6 ⟨rfl, hb6⟩; have HS6 := hide (HS5.out.step hb6); have HW6 := hide (HW5.out.step hb6); have HT6 := hide (HT5.out.stays hb6); have HX6 := hide (HX5.out.stays hb6); clear hb6 q3 q5) | (go_at_call 16; clear T4; refine (toOpS_any l ao cap w6 Hl2.out (HA.out.stays HS6.out.below)).mono ?_; rintro e w7 ⟨rfl, hx7, hb7⟩; have HS7 := hide (HS6.out.step hb7); have HW7 := hide (HW6.out.step hb7); have HT7 := hide (HT6.out.stays hb7); have HX7 := hide (HX6.out.stays hb7); have HY7 := hide hx7; clear hx7 hb7) | (go_at_call 18; refine (eqOpS_same l _ _ _ _ w7 HLl.out HX7.out.opsAt HY7.out.opsAt).mono ?_; rintro e w8 ⟨rfl, hb8⟩; have HS8 := hide (HS7.out.step hb8); have HW8 := hide (HW7.out.step hb8); have HT8 := hide (HT7.out.stays hb8); have HX8 := hide (HX7.out.stays hb8); clear hb8) | (go_at_call 19; refine (markOpS_some (w3.heap.size + 1) 0 l.length l.length 1 (l.length * 7) 51 w8 Hl2.out (by omega) (by omega) (opsIn_row HX8.out) (by omega)).mono ?_; rintro e w9 ⟨rfl, _, _, hg9⟩; have HTw := hide (grown_twixt hg9); have hSz := HX4.out.lt; have HS9 := hide (HS8.out.twixt HTw.out (by have := HS3.out.below.size; simp at this; omega) (by simp; omega)); have HW9 := hide (HW8.out.twixt HTw.out (by omega)); have HT9 := hide (HT8.out.twixt HTw.out (by omega)); have q3 := HS9.out.one (b := w3.heap.size) (v := .slice a3 d3.length c3) (T := 43) (by simp); have q5 := HS9.out.one (b := w5.heap.size) (v := .slice a5 d5.length c5) (T := 43) (by simp); clear hg9) | (go_at_call 24; clear E2; refine (eqTree_same d5 d3 _ _ _ _ _ HE53.out (by have := HZ5.out.1; unfold maxLen; omega) (fun n hn => (by have := HZ5.out.2 n hn; unfold maxLen; omega)) HT9.out.nodesAt HW9.out.at_).mono ?_; rintro e w10 ⟨rfl, hb10⟩; have HS10 := hide (HS9.out.step hb10); have HW10 := hide (HW9.out.step hb10); have HT10 := hide (HT9.out.stays hb10); clear hb10 q3 q5; have q5 := HS10.out.one (b := w5.heap.size) (v := .slice a5 d5.length c5) (T := 43) (by simp)) | (go_at_call 29; have hmk := markTree_any d5 a5 c5 w4.heap.size w5.heap.size 1 w10 HZ5.out.1 HZ5.out.2 (by omega) (by omega) HT10.out HU5.out; rw [HE.out] at hmk; refine hmk.mono ?_; rintro e w11 ⟨rfl, ht11, hg11⟩; have HTw2 := hide hg11; have hw4 := HS4.out.below.size; have HS11 := hide (HS10.out.twixt HTw2.out hw4 (by simp; omega)); have HW11 := hide (HW10.out.twixt HTw2.out (by omega)); have HN11 : Hid (NodesAt w11 a5 (markN 1 d5)) := hide (TreeOwn.nodesAt (cap := c5) (by rw [markN_len]; exact ht11)); clear q5 hmk ht11 hg11; have q5 := HS11.out.one (b := w5.heap.size) (v := .slice a5 d5.length c5) (T := 43) (by simp)) | (go_at_call 30; clear Q1; have hhd := heldTree_any d5 1 c5 a5 w11 HZ5.out.1 HZ5.out.2 (by omega) (by omega) HN11.out; rw [HE.out] at hhd; refine hhd.mono ?_; rintro e w12 ⟨rfl, hb12⟩; have HS12 := hide (HS11.out.step hb12); have HW12 := hide (HW11.out.step hb12); have HN12 := hide (HN11.out.stays hb12); clear q5 hhd hb12) | (go_at_call 16; clear T5; refine (toOpS_any l ao cap w12 Hl2.out (HA.out.stays HS12.out.below)).mono ?_; rintro e w13 ⟨rfl, hx13, hb13⟩; have HS13 := hide (HS12.out.step hb13); have HW13 := hide (HW12.out.step hb13); have HN13 := hide (HN12.out.stays hb13); have h14 := iTreeOf_any l _ l.length w13 HLl.out hx13.opsAt HS.out; have H14 := hide h14; clear hx13 hb13 h14) | (go_at_call 32; clear I2; refine H14.out.mono ?_; rintro e w14 ⟨v14, d14, rfl, ht14, hd14, hb14⟩; obtain ⟨a14, c14, rfl, _, _⟩ := owns_atN ht14.row; have HS14 := hide ((HS13.out.step hb14).new (.cells #[.slice a14 d14.length c14] 43)); have HW14 := hide ((HW13.out.step hb14).step ((Below.refl _ _).alloc (Nat.le_refl _) (.cells #[.slice a14 d14.length c14] 43))); have HN14 := hide ((HN13.out.stays hb14).stays ((Below.refl _ _).alloc (Nat.le_refl _) (.cells #[.slice a14 d14.length c14] 43))); have HT14 := hide (ht14.stays ((Below.refl _ _).alloc (Nat.le_refl _) (.cells #[.slice a14 d14.length c14] 43))); have HE14 : Hid (d3.map NodG.bare = d14.map NodG.bare) := hide (hd3_eq HD3.out hd14); have HZ14 := hide (HZt.out.alike hd14); have q3 := HS14.out.one (b := w3.heap.size) (v := .slice a3 d3.length c3) (T := 43) (by simp); have q14 := HS14.out.one (b := w14.heap.size) (v := .slice a14 d14.length c14) (T := 43) (by simp); clear H14 ht14 hd14 hb14) | (go_at_call 24; clear E3; refine (eqTree_same d14 d3 _ _ _ _ _ HE14.out (by have := HZ14.out.1; unfold maxLen; omega) (fun n hn => (by have := HZ14.out.2 n hn; unfold maxLen; omega)) HT14.out.nodesAt HW14.out.at_).mono ?_; rintro e w15 ⟨rfl, hb15⟩; have HS15 := hide (HS14.out.step hb15); have HN15 := hide (HN14.out.stays hb15); clear hb15 q3 q14; have q5 := HS15.out.one (b := w5.heap.size) (v := .slice a5 d5.length c5) (T := 43) (by simp)) | (go_at_call 30; clear Q2; have hhd := heldTree_any d5 1 c5 a5 w15 HZ5.out.1 HZ5.out.2 (by omega) (by omega) HN15.out; rw [HE.out] at hhd; refine hhd.mono ?_; rintro e w16 ⟨rfl, hb16⟩; have HS16 := hide (HS15.out.step hb16); clear q5 hhd hb16))
  go_ret
  exact ⟨rfl, HS16.out.below⟩
end Go.Proofs.Ytcpgkalafkhlgae.OpR
namespace Go.Proofs.Ytcpgkalafkhlgae
open Go.ChangeShapes Go.WideShapes Go.ChangeAt Go.RowKit Go.ChangeMaps
set_option linter.unusedVariables false
set_option maxRecDepth 100000 in
theorem fnExactTreeOf_lifted (os : Os) (started : os.Started) (H : Type) (enc : TypeId × Value → H) :
    ReturnsInHanded {} Try.checked os 7 .any (Rows.fnExactTreeOfSpec.pre6 enc Try.prog Try.f7 Rows.fnExactTreeOfRow.domain false) (Rows.fnExactTreeOfSpec.post enc Try.prog Try.f7 false true false false) := by
  refine returnsInHanded_of_change (C := Try.checked) (by kernel_rfl) started (by kernel_rfl) Try.func7
    (ChangeSpec.witness6 (enc := enc) (C := Try.checked) false ⟨#[], #[.slice none 0 0], []⟩ 8 (by kernel_rfl) (by kernel_rfl) (by kernel_rfl) (by kernel_rfl)) ?_
  intro W base args ds gs before hval0 hW hcnd _
  have hval : ∀ (j : Nat) t v, Try.f7.params[j]? = some t → args[j]? = some v → Value.okWide Try.prog W .any base t v := hval0
  have hW' := hW
  obtain ⟨p, q, hA0, hV, rfl, hfz, hnd⟩ := hW
  have hA : DataW.TrodAll enc Try.prog W 0 (fun _ => true) true Try.f7.params.toList args.toList ds p := hA0
  rw [Try.params7] at hA hval
  obtain ⟨v0, vs0, d0, ds0, p0, q0, hargs0, rfl, rfl, h0, r0⟩ := trodAll_cons hA
  obtain ⟨rfl, rfl, rfl⟩ := trodAll_nil r0
  obtain rfl : args = #[v0] := by cases args; simp_all
  obtain ⟨rfl, rfl⟩ := trodVars_none hV
  have hlt : ∀ x, (x ∈ p0) → x.block < W.heap.size := fun x hx => hW'.lt x (by simpa using hx)
  obtain ⟨ao0, cap0, l0, rfl, f0⟩ := OpR.cameOps (hval 0 29 v0 rfl rfl) h0
  clear hA0 hval0
  simp only [List.append_nil] at hW'
  refine (OpR.law_treeOf W ao0 cap0 l0 f0).mono fun e W' ⟨he, hw⟩ => ?_
  subst he
  exact ⟨_, rfl, _, _, _, [], _, [], hW', trodAll_mk1 (shut_bool Try.underlying4 _), trodAll_mk1 (Below.trod OpR.laidOut (by kernel_rfl) (of_decide_eq_true (by kernel_rfl)) h0 hw (fun x hx => hlt x hx)), rfl, hw.frame _, fun h => by cases h⟩

theorem fnExactTreeOf_holds : Rows.FnExactTreeOfSaid :=
  OpenClaim.holds_of_wide 7 Try.f7 rfl rfl rfl rfl rfl rfl rfl ⟨rfl, rfl, rfl, rfl, rfl⟩ rfl rfl rfl rfl rfl (by kernel_rfl) Try.func7 (by kernel_rfl)
    (of_decide_eq_true (by kernel_rfl)) (by unfold Func.isWrapper; first | (rw [if_pos (by decide +kernel)]; kernel_rfl) | (rw [if_neg (by decide +kernel)]; exact ⟨rfl, rfl⟩))
    (fun os started H enc _ => fnExactTreeOf_lifted os started H enc)
#print axioms fnExactTreeOf_holds
end Go.Proofs.Ytcpgkalafkhlgae
