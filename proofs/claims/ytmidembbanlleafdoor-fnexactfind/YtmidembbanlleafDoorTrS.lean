/- Proves what the harness does with trees: copies of them, comparisons. -/
import Derived.Test.YtmidembbanlleafDoorTrH
import Derived.Test.YtmidembbanlleafDoorRowG
namespace Go.Proofs.YtmidembbanlleafDoor.OpR
open Go.ChangeShapes Go.WideShapes Go.ChangeAt Go.RowKit
set_option linter.unusedVariables false

set_option maxRecDepth 100000 in
set_option maxHeartbeats 400000 in
theorem toProp_any (p : PropV) (w : World) :
    Calls Tryd.prog 50 #[p.agg] w fun e w' => e = .returned p.agg ∧ Below w.heap.size w w' := by
  unfold PropV.agg
  go_enter Tryd.func50, Tryd.ntmps50
  go_wp2
  exact bodyPost_ret (v := .agg #[.string p.key, .string p.value]) (by simp [results, Tryd.results50, go_sem]) rfl ⟨rfl, (((Below.refl _ _).alloc (Nat.le_refl _) _).alloc (by simp) _).alloc (by simp; omega) _⟩

set_option maxRecDepth 100000 in
set_option maxHeartbeats 400000 in
theorem toPropS_any (l : List PropV) (ao : Option Addr) (cap : Nat) (w : World) (hl : l.length ≤ 1048576) (hA : PropsAt w ao l) :
    Calls Tryd.prog 37 #[.slice ao l.length cap] w fun e w' => e = .returned (.slice (some ⟨w.heap.size, 0, none⟩) l.length l.length) ∧ InG PropV.cells w' w.heap.size 72 l ∧ Below w.heap.size w w' := by
  have HA : Hid (PropsAt w ao l) := ⟨hA⟩
  have hmk := make_props l.length hl
  clear hA
  go_enter Tryd.func37, Tryd.ntmps37
  go_wp2
  go_loopw [4] (fun i wr => ∃ k : Nat, k ≤ l.length ∧ i = .int .i64 k ∧ InG PropV.cells wr w.heap.size 72 (partG PropV.zero (l.take k) l.length) ∧ Below w.heap.size w wr) (fun i _ => l.length - (intOf i).toNat)
  case atStart => exact ⟨0, by omega, rfl, by rw [List.take_zero, partG_nil]; exact heap_alloc_new w _, (Below.refl _ _).alloc (Nat.le_refl _) _⟩
  case round =>
    obtain ⟨k, hk, rfl, hO, hb⟩ := hrel
    have HO : Hid (InG PropV.cells wr w.heap.size 72 (partG PropV.zero (l.take k) l.length)) := ⟨hO⟩
    clear hO
    by_cases h : k < l.length
    · obtain ⟨b, off, rfl, hlt, ho⟩ := HA.out k h
      obtain ⟨c0, c1⟩ := ho.block (w' := wr) (hb.block b hlt)
      have hcall := toProp_any l[k] wr
      unfold PropV.agg at hcall
      have hi0 : (0 : Int) ≤ (k : Int) := by omega
      have hi1 : (k : Int) < (l.length : Int) := by omega
      have Hlen : Hid (k < (partG PropV.zero (l.take k) l.length).length) := ⟨by rw [partG_len _ _ _ (by simp; omega)]; exact h⟩
      clear ho
      go_wp2_with (first | (go_at_call 50; refine hcall.mono ?_; rintro e w1 ⟨rfl, hb1⟩; obtain ⟨d0, d1⟩ := (HO.out.stays hb1).propAt Hlen.out; have f0 := (HO.out.stays hb1).frozen (k * 2); have f1 := (HO.out.stays hb1).frozen (k * 2 + 1); clear c0 c1))
      go_roundw
      case rel =>
        have hst := (HO.out.stays hb1).store prop_len Hlen.out l[k]
        have e : (partG PropV.zero (l.take k) l.length).set k l[k] = partG PropV.zero (l.take (k + 1)) l.length := by
          have := partG_set PropV.zero (l.take k) l.length l[k] (by simp; omega)
          rw [List.length_take, Nat.min_eq_left hk] at this
          rw [this, List.take_add_one, List.getElem?_eq_getElem h]; rfl
        rw [e] at hst
        exact ⟨k + 1, by omega, by go_num, hst, puts_below (Nat.le_refl _) l[k].cells (k * 2) w1 (hb.trans (hb1.mono hb.size))⟩
      case measure => simp [intOf]; omega
    · obtain rfl : k = l.length := by omega
      go_wp2
      go_ret
      have hO := HO.out
      rw [List.take_length, partG_all] at hO
      exact ⟨rfl, hO, hb⟩

theorem last3 (w : World) (a b c : Obj) : (((w.alloc a).alloc b).alloc c).heap[w.heap.size + 1 + 1]? = some c := by
  have := heap_alloc_new ((w.alloc a).alloc b) c
  simpa using this
theorem mid3 (w : World) (a b c : Obj) : (((w.alloc a).alloc b).alloc c).heap[w.heap.size + 1]? = some b := by
  have := heap_alloc_new (w.alloc a) b
  rw [Below.heap_alloc _ _ _ (by simp)]
  simpa using this
theorem cells4 {w : World} {g : Nat} {v0 v1 v2 v3 : Value} {T : TypeId} (h : w.heap[g]? = some (.cells #[v0, v1, v2, v3] T (0, 0))) :
    w.cell? ⟨g, 0, none⟩ = some v0 ∧ w.cell? ⟨g, 1, none⟩ = some v1 ∧ w.cell? ⟨g, 2, none⟩ = some v2 ∧ w.cell? ⟨g, 3, none⟩ = some v3 ∧ w.frozen? ⟨g, 0, none⟩ = false ∧ w.frozen? ⟨g, 1, none⟩ = false ∧ w.frozen? ⟨g, 2, none⟩ = false ∧ w.frozen? ⟨g, 3, none⟩ = false := by
  refine ⟨by simp [World.cell?, h], by simp [World.cell?, h], by simp [World.cell?, h], by simp [World.cell?, h], by simp [World.frozen?, h], by simp [World.frozen?, h], by simp [World.frozen?, h], by simp [World.frozen?, h]⟩

set_option maxRecDepth 100000 in
set_option maxHeartbeats 400000 in
theorem toNode_any (n : NodG) (w : World) (hl : n.props.length ≤ 1048576) (hA : PropsAt w n.pao n.props) :
    Calls Tryd.prog 27 #[n.agg] w fun e w' => ∃ h, e = .returned (.agg #[.int .i64 n.id, .int .i64 n.parent, .string n.name, .slice (some ⟨h, 0, none⟩) n.props.length n.props.length]) ∧ w.heap.size ≤ h ∧ InG PropV.cells w' h 72 n.props ∧ Below w.heap.size w w' := by
  have hcall := fun W (hW : Below w.heap.size w W) => toPropS_any n.props n.pao n.pcap W hl (hA.stays hW)
  have HC := hide hcall
  clear hcall hA
  unfold NodG.agg
  go_enter Tryd.func27, Tryd.ntmps27
  go_wp2_with (first | (go_at_call 37; refine (HC.out _ ((((Below.refl _ _).alloc (Nat.le_refl _) _).alloc (by simp) _).alloc (by simp; omega) _)).mono ?_; rintro e w1 ⟨rfl, hI, hb1⟩; obtain ⟨k0, k1, k2, k3, f0, f1, f2, f3⟩ := cells4 ((hb1.block (w.heap.size + 1 + 1) (by simp)).trans (last3 _ _ _ _)); obtain ⟨r0, r1, r2, r3, q0, q1, q2, q3⟩ := cells4 ((hb1.block (w.heap.size + 1) (by simp)).trans (mid3 _ _ _ _)); have HI := hide hI; have HB := hide hb1; clear hI hb1))
  have hI : InG PropV.cells w1 (w.heap.size + 1 + 1 + 1) 72 n.props := by simpa using HI.out
  have hB : Below w.heap.size w w1 := ((((Below.refl _ _).alloc (Nat.le_refl _) _).alloc (by simp) _).alloc (by simp; omega) _).trans (HB.out.mono (by simp; omega))
  refine bodyPost_ret (v := .agg #[.int .i64 n.id, .int .i64 n.parent, .string n.name, .slice (some ⟨w.heap.size + 1 + 1 + 1, 0, none⟩) n.props.length n.props.length]) (by simp [results, Tryd.results27, go_sem, r0, r1, r2, r3]) rfl ⟨_, rfl, by omega, ?_, ?_⟩
  · exact (hI.block (Below.heap_setCell w1 ⟨w.heap.size + 1 + 1, 3, none⟩ (.slice (some ⟨w.heap.size + 1 + 1 + 1, 0, none⟩) n.props.length n.props.length) (w.heap.size + 1 + 1 + 1) (by simp))).block (puts_other (g := w.heap.size + 1) (b := w.heap.size + 1 + 1 + 1) (by omega) [.int .i64 n.id, .int .i64 n.parent, .string n.name, .slice (some ⟨w.heap.size + 1 + 1 + 1, 0, none⟩) n.props.length n.props.length] 0 _)
  · exact puts_below (g := w.heap.size + 1) (by omega) [.int .i64 n.id, .int .i64 n.parent, .string n.name, .slice (some ⟨w.heap.size + 1 + 1 + 1, 0, none⟩) n.props.length n.props.length] 0 _ (hB.setCell (p := ⟨w.heap.size + 1 + 1, 3, none⟩) (by simp; omega) _)

/-- A node without the place of its props. -/
def NodG.bare (n : NodG) : NodG := { n with pao := none, pcap := 0 }
/-- Nodes and props in rows that the call owns, no two in one. -/
structure TreeOwn (w : World) (base : Nat) (v : Value) (l : List NodG) : Prop where
  row : w.ownsRow base 53 4 v l.length (flatG NodG.cells l)
  props : ∀ n ∈ l, w.ownsRow base 72 2 (.slice n.pao n.props.length n.pcap) n.props.length (flatG PropV.cells n.props)
  apart : l.Pairwise fun a b => ∀ x y, a.pao = some x → b.pao = some y → x.block ≠ y.block
  off : ∀ n ∈ l, ∀ x, n.pao = some x → v.ownBlock ≠ some x.block
theorem props_own {w : World} {base : Nat} {T : TypeId} {ao : Option Addr} {cap : Nat} {l : List PropV} (h : w.ownsRow base T 2 (.slice ao l.length cap) l.length (flatG PropV.cells l)) : PropsAt w ao l := by
  rcases h.2 with ⟨e, hn⟩ | ⟨g, cap', cur, e, hb, hg, h1, h2, h3, h4⟩
  · rw [List.eq_nil_of_length_eq_zero hn]
    exact fun j hj => absurd hj (by simp)
  · simp only [Value.slice.injEq] at e
    obtain ⟨rfl, _, _⟩ := e
    intro j hj
    refine ⟨g, 0, rfl, (Array.getElem?_eq_some_iff.1 hg).1, ?_⟩
    have hc := fun f (hf : f < 2) (u : Value) (hu : l[j].cells[f]? = some u) => h.cells rfl (j * 2 + f) u ((flatG_get prop_len l j f hj hf).trans hu)
    simp only [Addr.add_lit] at hc
    exact ⟨hc 0 (by omega) _ rfl, hc 1 (by omega) _ rfl⟩
theorem TreeOwn.nodesAt {w : World} {base : Nat} {ao : Option Addr} {cap : Nat} {l : List NodG} (h : TreeOwn w base (.slice ao l.length cap) l) : NodesAt w ao l := by
  rcases h.row.2 with ⟨e, hn⟩ | ⟨g, cap', cur, e, hb, hg, h1, h2, h3, h4⟩
  · rw [List.eq_nil_of_length_eq_zero hn]
    exact fun j hj => absurd hj (by simp)
  · simp only [Value.slice.injEq] at e
    obtain ⟨rfl, _, _⟩ := e
    intro j hj
    refine ⟨g, 0, rfl, (Array.getElem?_eq_some_iff.1 hg).1, ?_, props_own (h.props _ (List.getElem_mem hj))⟩
    have hc := fun f (hf : f < 4) (u : Value) (hu : l[j].cells[f]? = some u) => h.row.cells rfl (j * 4 + f) u ((flatG_get nod_len l j f hj hf).trans hu)
    simp only [Addr.add_lit] at hc
    exact ⟨hc 0 (by omega) _ rfl, hc 1 (by omega) _ rfl, hc 2 (by omega) _ rfl, hc 3 (by omega) _ rfl⟩
theorem TreeOwn.stays {w w' : World} {base : Nat} {v : Value} {l : List NodG} (h : TreeOwn w base v l) (hb : Below w.heap.size w w') : TreeOwn w' base v l :=
  ⟨h.row.kept (row := none) ⟨hb.os, hb.tape, hb.output, hb.size, fun k hk _ => hb.block k hk⟩ (by cases hv : v.ownBlock <;> simp), fun n hn => (h.props n hn).kept (row := none) ⟨hb.os, hb.tape, hb.output, hb.size, fun k hk _ => hb.block k hk⟩ (by cases hv : (Value.slice n.pao n.props.length n.pcap).ownBlock <;> simp), h.apart, h.off⟩

theorem owns_moved {w w' : World} {base : Nat} {e : TypeId} {size : Nat} {v : Value} {n : Nat} {xs : List Value} (h : w.ownsRow base e size v n xs) (he : ∀ g, base ≤ g → w'.heap[g]? = w.heap[g]?) : w'.ownsRow base e size v n xs := by
  refine ⟨h.1, h.2.imp id fun ⟨g, cap, cur, e1, hb, hg, r⟩ => ⟨g, cap, cur, e1, hb, (he g hb).trans hg, r⟩⟩
theorem owns_lower {w : World} {base base' : Nat} {e : TypeId} {size : Nat} {v : Value} {n : Nat} {xs : List Value} (h : w.ownsRow base e size v n xs) (hb : base' ≤ base) : w.ownsRow base' e size v n xs := by
  refine ⟨h.1, h.2.imp id fun ⟨g, cap, cur, e1, h1, r⟩ => ⟨g, cap, cur, e1, Nat.le_trans hb h1, r⟩⟩
theorem TreeOwn.moved {w w' : World} {base : Nat} {v : Value} {l : List NodG} (h : TreeOwn w base v l) (he : ∀ g, base ≤ g → w'.heap[g]? = w.heap[g]?) : TreeOwn w' base v l :=
  ⟨owns_moved h.row he, fun n hn => owns_moved (h.props n hn) he, h.apart, h.off⟩
theorem TreeOwn.lower {w : World} {base base' : Nat} {v : Value} {l : List NodG} (h : TreeOwn w base v l) (hb : base' ≤ base) : TreeOwn w base' v l :=
  ⟨owns_lower h.row hb, fun n hn => owns_lower (h.props n hn) hb, h.apart, h.off⟩

/-- What lies in a tree that is being copied. -/
structure Copied (w : World) (G : Nat) (l d : List NodG) : Prop where
  bare : d.map NodG.bare = (l.take d.length).map NodG.bare
  row : InG NodG.cells w G 53 (partG NodG.none0 d l.length)
  props : ∀ n ∈ d, ∃ h, n.pao = some ⟨h, 0, none⟩ ∧ n.pcap = n.props.length ∧ G < h ∧ n.props.length ≤ 1048576 ∧ InG PropV.cells w h 72 n.props
  apart : d.Pairwise fun a b => ∀ x y, a.pao = some x → b.pao = some y → x.block ≠ y.block
theorem Copied.stays {w w' : World} {G : Nat} {l d : List NodG} (h : Copied w G l d) (hb : Below w.heap.size w w') : Copied w' G l d :=
  ⟨h.bare, h.row.stays hb, fun n hn => by obtain ⟨g, h1, h2, h3, h4, h5⟩ := h.props n hn; exact ⟨g, h1, h2, h3, h4, h5.stays hb⟩, h.apart⟩
theorem Copied.step {w : World} {G : Nat} {l d : List NodG} (h : Copied w G l d) (hd : d.length < l.length) (n : NodG) (hn : n.bare = l[d.length].bare) {g : Nat} (h1 : n.pao = some ⟨g, 0, none⟩) (h2 : n.pcap = n.props.length) (hG : G < g) (h3 : n.props.length ≤ 1048576)
    (h4 : InG PropV.cells w g 72 n.props) (h5 : ∀ m ∈ d, ∀ x, m.pao = some x → x.block < g) : Copied (putsG w G (d.length * 4) n.cells) G l (d ++ [n]) := by
  refine ⟨?_, ?_, fun m hm => ?_, ?_⟩
  · rw [List.length_append, List.map_append, h.bare]
    simp only [List.length_cons, List.length_nil, Nat.zero_add, List.map_cons, List.map_nil, List.map_take]
    rw [List.take_add_one, List.getElem?_eq_getElem (by simpa using hd), hn]
    simp
  · have := h.row.store nod_len (k := d.length) (by rw [partG_len _ _ _ (by omega)]; exact hd) n
    rwa [partG_set _ _ _ _ hd] at this
  · rcases List.mem_append.1 hm with hm | hm
    · obtain ⟨g', e1, e2, e3, e4, e5⟩ := h.props m hm
      exact ⟨g', e1, e2, e3, e4, e5.block (puts_other (by omega) _ _ _)⟩
    · obtain rfl := List.mem_singleton.1 hm
      exact ⟨g, h1, h2, hG, h3, h4.block (puts_other (by omega) _ _ _)⟩
  · rw [List.pairwise_append]
    refine ⟨h.apart, by simp, fun a ha b hb x y hx hy => ?_⟩
    obtain rfl := List.mem_singleton.1 hb
    rw [h1] at hy
    cases hy
    have := h5 a ha x hx
    simp
    omega
theorem Copied.done {w : World} {G base : Nat} {l d : List NodG} (h : Copied w G l d) (hd : d.length = l.length) (hl : l.length ≤ 1048576) (hb : base ≤ G) : TreeOwn w base (.slice (some ⟨G, 0, none⟩) d.length d.length) d ∧ d.map NodG.bare = l.map NodG.bare := by
  have hr := h.row
  rw [← hd, partG_all] at hr
  refine ⟨⟨hr.owns nod_len hb (by unfold maxLen; omega), fun n hn => ?_, h.apart, fun n hn x hx => ?_⟩, ?_⟩
  · obtain ⟨g, e1, e2, e3, e4, e5⟩ := h.props n hn
    rw [e1, e2]
    exact e5.owns prop_len (by omega) (by unfold maxLen; omega)
  · obtain ⟨g, e1, e2, e3, e4, e5⟩ := h.props n hn
    rw [e1] at hx
    cases hx
    simp [Value.ownBlock]
    omega
  · have := h.bare
    rwa [hd, List.take_length] at this

set_option maxRecDepth 100000 in
set_option maxHeartbeats 400000 in
theorem toNodeS_any (l : List NodG) (ao : Option Addr) (cap : Nat) (w : World) (hl : l.length ≤ 1048576) (hA : NodesAt w ao l) (hS : ∀ n ∈ l, n.props.length ≤ 1048576) :
    Calls Tryd.prog 13 #[.slice ao l.length cap] w fun e w' => ∃ d : List NodG, e = .returned (.slice (some ⟨w.heap.size, 0, none⟩) d.length d.length) ∧ TreeOwn w' w.heap.size (.slice (some ⟨w.heap.size, 0, none⟩) d.length d.length) d ∧ d.map NodG.bare = l.map NodG.bare ∧ Below w.heap.size w w' := by
  have HA : Hid (NodesAt w ao l) := ⟨hA⟩
  have HS := hide hS
  have hmk := make_nodes l.length hl
  clear hA hS
  go_enter Tryd.func13, Tryd.ntmps13
  go_wp2
  go_loopw [4] (fun i wr => ∃ d : List NodG, d.length ≤ l.length ∧ i = .int .i64 d.length ∧ Copied wr w.heap.size l d ∧ Below w.heap.size w wr) (fun i _ => l.length - (intOf i).toNat)
  case atStart => exact ⟨[], by simp, rfl, ⟨by simp, by rw [partG_nil]; exact heap_alloc_new w _, by simp, by simp⟩, (Below.refl _ _).alloc (Nat.le_refl _) _⟩
  case round =>
    obtain ⟨d, hk, rfl, hO, hb⟩ := hrel
    have HO := hide hO
    have hwlt := hO.row.lt
    clear hO
    obtain ⟨k, hkd⟩ : ∃ k, d.length = k := ⟨_, rfl⟩
    have HK := hide hkd
    simp only [hkd] at hk ⊢
    clear hkd
    by_cases h : k < l.length
    · obtain ⟨b, off, rfl, hlt, ho, hp⟩ := HA.out k h
      obtain ⟨c0, c1, c2, c3⟩ := ho.block (w' := wr) (hb.block b hlt)
      have hcall := toNode_any l[k] wr (HS.out _ (List.getElem_mem h)) (hp.stays hb)
      unfold NodG.agg at hcall
      have hi0 : (0 : Int) ≤ (k : Int) := by omega
      have hi1 : (k : Int) < (l.length : Int) := by omega
      have Hlen : Hid (k < (partG NodG.none0 d l.length).length) := ⟨by rw [partG_len _ _ _ (by rw [HK.out]; exact hk)]; exact h⟩
      clear ho hp
      go_wp2_with (first | (go_at_call 27; refine hcall.mono ?_; rintro e w1 ⟨g, rfl, hg1, hg2, hb1⟩; have HG := hide hg2; clear hg2; obtain ⟨d0, d1, d2, d3⟩ := (HO.out.row.stays hb1).nodAt Hlen.out; have f0 := (HO.out.row.stays hb1).frozen (k * 4); have f1 := (HO.out.row.stays hb1).frozen (k * 4 + 1); have f2 := (HO.out.row.stays hb1).frozen (k * 4 + 2); have f3 := (HO.out.row.stays hb1).frozen (k * 4 + 3); clear c0 c1 c2 c3))
      go_roundw
      case rel =>
        have hd : d.length < l.length := by rw [HK.out]; exact h
        have hst := (HO.out.stays hb1).step hd ⟨l[k].id, l[k].parent, l[k].name, l[k].props, some ⟨g, 0, none⟩, l[k].props.length⟩ (by simp only [HK.out]; rfl) rfl rfl (by omega) (HS.out l[k] (List.getElem_mem h)) HG.out (fun m hm x hx => by
          obtain ⟨g', e1, _, _, _, e5⟩ := HO.out.props m hm
          rw [e1] at hx
          cases hx
          have := e5.lt
          simp
          omega)
        rw [HK.out] at hst
        exact ⟨_, by simp; omega, by simp [HK.out], hst, puts_below (Nat.le_refl _) (NodG.cells ⟨l[k].id, l[k].parent, l[k].name, l[k].props, some ⟨g, 0, none⟩, l[k].props.length⟩) (k * 4) w1 (hb.trans (hb1.mono hb.size))⟩
      case measure => simp [intOf]; omega
    · obtain rfl : k = l.length := by omega
      go_wp2
      go_ret
      obtain ⟨h1, h2⟩ := HO.out.done HK.out hl (Nat.le_refl _)
      exact ⟨d, by rw [HK.out]; rfl, h1, h2, hb⟩

theorem cells1 {w : World} {g : Nat} {v0 : Value} {T : TypeId} (h : w.heap[g]? = some (.cells #[v0] T (0, 0))) : w.cell? ⟨g, 0, none⟩ = some v0 ∧ w.frozen? ⟨g, 0, none⟩ = false :=
  ⟨by simp [World.cell?, h], by simp [World.frozen?, h]⟩
theorem last2 (w : World) (a b : Obj) : ((w.alloc a).alloc b).heap[w.heap.size + 1]? = some b := by
  have := heap_alloc_new (w.alloc a) b
  simpa using this
set_option maxRecDepth 100000 in
set_option maxHeartbeats 400000 in
theorem toTree_any (l : List NodG) (ao : Option Addr) (cap : Nat) (w : World) (hl : l.length ≤ 1048576) (hA : NodesAt w ao l) (hS : ∀ n ∈ l, n.props.length ≤ 1048576) :
    Calls Tryd.prog 6 #[.agg #[.slice ao l.length cap]] w fun e w' => ∃ (d : List NodG) (g : Nat), e = .returned (.agg #[.slice (some ⟨g, 0, none⟩) d.length d.length]) ∧ TreeOwn w' w.heap.size (.slice (some ⟨g, 0, none⟩) d.length d.length) d ∧ d.map NodG.bare = l.map NodG.bare ∧ Below w.heap.size w w' := by
  have hcall := fun W (hW : Below w.heap.size w W) => toNodeS_any l ao cap W hl (hA.stays hW) hS
  have HC := hide hcall
  clear hcall hA hS
  go_enter Tryd.func6, Tryd.ntmps6
  go_wp2_with (first | (go_at_call 13; refine (HC.out _ ((((Below.refl _ _).alloc (Nat.le_refl _) _).alloc (by simp) _).alloc (by simp; omega) _)).mono ?_; rintro e w1 ⟨d, rfl, hI, hd, hb1⟩; obtain ⟨k0, f0⟩ := cells1 ((hb1.block (w.heap.size + 1 + 1) (by simp)).trans (last3 _ _ _ _)); obtain ⟨r0, q0⟩ := cells1 ((hb1.block (w.heap.size + 1) (by simp)).trans (mid3 _ _ _ _)); have HI := hide hI; have HB := hide hb1; have HD := hide hd; clear hI hb1 hd))
  have hI : TreeOwn w1 (w.heap.size + 1 + 1 + 1) (.slice (some ⟨w.heap.size + 1 + 1 + 1, 0, none⟩) d.length d.length) d := by simpa using HI.out
  have hB : Below w.heap.size w w1 := ((((Below.refl _ _).alloc (Nat.le_refl _) _).alloc (by simp) _).alloc (by simp; omega) _).trans (HB.out.mono (by simp; omega))
  refine bodyPost_ret (v := .agg #[.slice (some ⟨w.heap.size + 1 + 1 + 1, 0, none⟩) d.length d.length]) (by simp [results, Tryd.results6, go_sem, r0]) rfl ⟨d, _, rfl, ?_, HD.out, ?_⟩
  · refine (hI.moved (fun g hg => ?_)).lower (by omega)
    rw [Below.heap_setCell _ _ _ _ (by simp; omega), Below.heap_setCell _ _ _ _ (by simp; omega)]
  · exact (hB.setCell (by simp; omega) _).setCell (by simp) _

set_option maxRecDepth 100000 in
set_option maxHeartbeats 400000 in
theorem eqProp_same (p : PropV) (w : World) :
    Calls Tryd.prog 62 #[p.agg, p.agg] w fun e w' => e = .returned (.bool true) ∧ Below w.heap.size w w' := by
  unfold PropV.agg
  go_enter Tryd.func62, Tryd.ntmps62
  go_wp2
  go_ret
  exact ⟨rfl, ((Below.refl _ _).alloc (Nat.le_refl _) _).alloc (by simp) _⟩

set_option maxRecDepth 100000 in
set_option maxHeartbeats 400000 in
theorem eqPropS_same (l : List PropV) (ao1 ao2 : Option Addr) (cap1 cap2 : Nat) (w : World) (hl : l.length ≤ maxLen) (hA : PropsAt w ao1 l) (hC : PropsAt w ao2 l) :
    Calls Tryd.prog 48 #[.slice ao1 l.length cap1, .slice ao2 l.length cap2] w fun e w' => e = .returned (.bool true) ∧ Below w.heap.size w w' := by
  unfold maxLen at hl
  have HA : Hid (PropsAt w ao1 l) := ⟨hA⟩
  have HC : Hid (PropsAt w ao2 l) := ⟨hC⟩
  clear hA hC
  go_enter Tryd.func48, Tryd.ntmps48
  go_wp2
  go_loopw [5] (fun i wr => ∃ k : Nat, k ≤ l.length ∧ i = .int .i64 k ∧ Below w.heap.size w wr) (fun i _ => l.length - (intOf i).toNat)
  case atStart => exact ⟨0, by omega, rfl, Below.refl _ _⟩
  case round =>
    obtain ⟨k, hk, rfl, hb⟩ := hrel
    by_cases h : k < l.length
    · obtain ⟨b, off, rfl, hlt, ho⟩ := HA.out k h
      obtain ⟨c0, c1⟩ := ho.block (w' := wr) (hb.block b hlt)
      obtain ⟨b2, off2, rfl, hlt2, ho2⟩ := HC.out k h
      obtain ⟨d0, d1⟩ := ho2.block (w' := wr) (hb.block b2 hlt2)
      have hcall := eqProp_same l[k] wr.drew
      unfold PropV.agg at hcall
      have hi0 : (0 : Int) ≤ (k : Int) := by omega
      have hi1 : (k : Int) < (l.length : Int) := by omega
      clear ho ho2
      go_wp2
      go_region_with (go_at_call 62; refine hcall.mono ?_; rintro e w1 ⟨rfl, hb1⟩)
      all_goals (
        go_wp2
        go_roundw
        case rel => exact ⟨k + 1, by omega, by go_num, hb.drew.trans (hb1.mono hb.size)⟩
        case measure => simp [intOf]; omega)
    · obtain rfl : k = l.length := by omega
      go_wp2
      go_ret
      exact ⟨rfl, hb⟩

set_option maxRecDepth 100000 in
set_option maxHeartbeats 400000 in
theorem eqNode_same (n m : NodG) (w : World) (he : n.bare = m.bare) (hl : n.props.length ≤ maxLen) (hA : PropsAt w n.pao n.props) (hC : PropsAt w m.pao m.props) :
    Calls Tryd.prog 34 #[n.agg, m.agg] w fun e w' => e = .returned (.bool true) ∧ Below w.heap.size w w' := by
  obtain ⟨i, p, s, ps, a, c⟩ := n
  obtain ⟨i', p', s', ps', a', c'⟩ := m
  simp only [NodG.bare, NodG.mk.injEq, and_true] at he
  obtain ⟨rfl, rfl, rfl, rfl⟩ := he
  have hcall := fun W (hW : Below w.heap.size w W) => eqPropS_same ps a a' c c' W hl (hA.stays hW) (hC.stays hW)
  have HC := hide hcall
  clear hcall hA hC hl
  unfold NodG.agg
  simp only
  go_enter Tryd.func34, Tryd.ntmps34
  go_wp2_with (first | (go_at_call 48; refine (HC.out _ (((Below.refl _ _).alloc (Nat.le_refl _) _).alloc (by simp) _)).mono ?_; rintro e w1 ⟨rfl, hb1⟩))
  go_ret
  exact ⟨rfl, (((Below.refl _ _).alloc (Nat.le_refl _) _).alloc (by simp) _).trans (hb1.mono (by simp; omega))⟩

theorem bare_at {l d : List NodG} (h : d.map NodG.bare = l.map NodG.bare) {k : Nat} (hk : k < l.length) : ∃ hd : k < d.length, d[k].bare = l[k].bare := by
  have hl : d.length = l.length := by simpa using congrArg List.length h
  have hd : k < d.length := by omega
  have e := congrArg (fun x => x[k]?) h
  simp only [List.getElem?_map, List.getElem?_eq_getElem hd, List.getElem?_eq_getElem hk, Option.map_some, Option.some.injEq] at e
  exact ⟨hd, e⟩
set_option maxRecDepth 100000 in
set_option maxHeartbeats 400000 in
theorem eqNodeS_same (l d : List NodG) (ao1 ao2 : Option Addr) (cap1 cap2 : Nat) (w : World) (hbr : d.map NodG.bare = l.map NodG.bare) (hl : l.length ≤ maxLen) (hS : ∀ n ∈ l, n.props.length ≤ maxLen) (hA : NodesAt w ao1 l) (hC : NodesAt w ao2 d) :
    Calls Tryd.prog 19 #[.slice ao1 l.length cap1, .slice ao2 d.length cap2] w fun e w' => e = .returned (.bool true) ∧ Below w.heap.size w w' := by
  unfold maxLen at hl
  have hlen : d.length = l.length := by simpa using congrArg List.length hbr
  rw [hlen]
  have HL := hide hlen
  have HR := hide hbr
  have HS := hide hS
  have HA : Hid (NodesAt w ao1 l) := ⟨hA⟩
  have HC : Hid (NodesAt w ao2 d) := ⟨hC⟩
  clear hA hC hS hbr hlen
  go_enter Tryd.func19, Tryd.ntmps19
  go_wp2
  go_loopw [5] (fun i wr => ∃ k : Nat, k ≤ l.length ∧ i = .int .i64 k ∧ Below w.heap.size w wr) (fun i _ => l.length - (intOf i).toNat)
  case atStart => exact ⟨0, by omega, rfl, Below.refl _ _⟩
  case round =>
    obtain ⟨k, hk, rfl, hb⟩ := hrel
    by_cases h : k < l.length
    · obtain ⟨hd, hbk⟩ := bare_at HR.out h
      obtain ⟨b, off, rfl, hlt, ho, hp⟩ := HA.out k h
      obtain ⟨c0, c1, c2, c3⟩ := ho.block (w' := wr) (hb.block b hlt)
      obtain ⟨b2, off2, rfl, hlt2, ho2, hp2⟩ := HC.out k hd
      obtain ⟨d0, d1, d2, d3⟩ := ho2.block (w' := wr) (hb.block b2 hlt2)
      have hcall := eqNode_same l[k] d[k] wr.drew hbk.symm (HS.out _ (List.getElem_mem h)) (hp.stays hb.drew) (hp2.stays hb.drew)
      unfold NodG.agg at hcall
      have hi0 : (0 : Int) ≤ (k : Int) := by omega
      have hi1 : (k : Int) < (l.length : Int) := by omega
      clear ho ho2 hp hp2 hbk
      go_wp2
      go_region_with (go_at_call 34; refine hcall.mono ?_; rintro e w1 ⟨rfl, hb1⟩)
      all_goals (
        go_wp2
        go_roundw
        case rel => exact ⟨k + 1, by omega, by go_num, hb.drew.trans (hb1.mono hb.size)⟩
        case measure => simp [intOf]; omega)
    · obtain rfl : k = l.length := by omega
      go_wp2
      go_ret
      exact ⟨rfl, hb⟩

set_option maxRecDepth 100000 in
set_option maxHeartbeats 400000 in
theorem eqTree_same (l d : List NodG) (ao1 ao2 : Option Addr) (cap1 cap2 : Nat) (w : World) (hbr : d.map NodG.bare = l.map NodG.bare) (hl : l.length ≤ maxLen) (hS : ∀ n ∈ l, n.props.length ≤ maxLen) (hA : NodesAt w ao1 l) (hC : NodesAt w ao2 d) :
    Calls Tryd.prog 8 #[.agg #[.slice ao1 l.length cap1], .agg #[.slice ao2 d.length cap2]] w fun e w' => e = .returned (.bool true) ∧ Below w.heap.size w w' := by
  have hcall := fun W (hW : Below w.heap.size w W) => eqNodeS_same l d ao1 ao2 cap1 cap2 W hbr hl hS (hA.stays hW) (hC.stays hW)
  have HC := hide hcall
  clear hcall hA hC hS hl hbr
  go_enter Tryd.func8, Tryd.ntmps8
  go_wp2_with (first | (go_at_call 19; refine (HC.out _ (((Below.refl _ _).alloc (Nat.le_refl _) _).alloc (by simp) _)).mono ?_; rintro e w1 ⟨rfl, hb1⟩))
  go_ret
  exact ⟨rfl, (((Below.refl _ _).alloc (Nat.le_refl _) _).alloc (by simp) _).trans (hb1.mono (by simp; omega))⟩
end Go.Proofs.YtmidembbanlleafDoor.OpR
