/- Proves what strings.Clone tells of a text: the same text, in new memory. Proves what impl.ownProps and impl.ownNodes make: the same props and nodes, in new memory down to the texts. Proves what impl.ownNodes makes: the same nodes, in new memory down to the texts. Proves what a map of nodes makes as a tree: impl's (nodeMap).tree. Keys in order, and a prop set among props. Plain mathematics. Proves what impl.withProp makes of props and one prop more: a new list with it set. A node put among nodes in order, and what becomes of the ways up. Plain mathematics. -/
import Derived.Test.YtcpgkalafkhlgaeDoe
import Derived.Lib.UnsafeStr
namespace Go.Proofs.Ytcpgkalafkhlgae.NumR
open Go.ChangeShapes Go.WideShapes Go.ChangeAt Go.RowKit
set_option linter.unusedVariables false

theorem row_full {N : Nat} {l : List UInt8} (h : l.length = N) : row N l = (cellsOf l).toArray := by
  unfold row
  rw [h, Nat.sub_self]
  simp
set_option maxRecDepth 100000 in
set_option maxHeartbeats 400000 in
theorem cloneIn_any (s : ByteArray) (w : World) (hs : s.size ≤ 1099511627776) :
    Calls Try.prog 112 #[.string s] w fun e w' => e = .returned (.string s) ∧ Below w.heap.size w w' := by
  by_cases h0 : s.size = 0
  · obtain rfl : s = ⟨#[]⟩ := ByteArray.ext (Array.eq_empty_of_size_eq_zero h0)
    go_enter Try.func112, Try.ntmps112
    go_wp2
    go_ret
    exact ⟨rfl, Below.refl _ _⟩
  · obtain ⟨N, hN⟩ : ∃ N, s.size = N := ⟨_, rfl⟩
    have hmk : ∀ w, (Instr.makeSlice 111 (.int .i64 (N : Int)) (.int .i64 (N : Int))).run Try.prog w = .ok (.slice (some ⟨w.heap.size, 0, none⟩) N N) (w.alloc (.cells (row N []) 5)) :=
      fun w => by rw [← row_made]; exact run_make_row' 111 5 (.int .u8 0) 1 Try.underlying111 info8' rfl .i64 .i64 N (by omega) (by omega) w
    have hcp : (Builtin.copy_ #[111, 9] 3 #[.slice (some ⟨w.heap.size, 0, none⟩) N N, .string s]).run Try.prog (w.alloc (.cells (row N []) 5)) = .ok (.int .i64 (N : Int)) (w.alloc (.cells (row N s.data.toList) 5)) := by
      have h := copy_row w N [] s (by simp; omega)
      have e : offOf N ([] : List UInt8).length = 0 := by unfold offOf; split <;> rfl
      rw [e, hN] at h
      simpa using h
    have hl : s.data.toList.length = N := by rw [size_list]; exact hN
    have hne : s.data.toList ≠ [] := fun e => h0 (by rw [← size_list, e]; rfl)
    have hgY : (w.alloc (.cells (row N s.data.toList) 5)).heap[w.heap.size]? = some (.cells (row N s.data.toList) 5 (0, 0)) := heap_alloc_new w _
    have hrs : (row N s.data.toList).size = N := row_size (by omega)
    have hUS := Lib.run_unsafeString_row (P := Try.prog) (w.alloc (.cells (row N s.data.toList) 5)) 156 3 9 5 Try.underlying156 (by kernel_rfl) w.heap.size N (by unfold World.shape?; rw [hgY]; simp [hrs]) s.data.toList hne (by omega) (by omega)
      (fun j x hx => by
        rw [Addr.add_lit, Nat.zero_add, World.cell?_alloc_at _ _ _ _ rfl, row_full hl]
        simp [cellsOf, hx])
    rw [hl] at hUS
    clear hgY hne hl
    go_enter Try.func112, Try.ntmps112
    go_wp2
    go_ret
    have hb1 : Below w.heap.size w (w.alloc (.cells (row N s.data.toList) 5)) := (Below.refl _ w).alloc (Nat.le_refl _) _
    exact ⟨rfl, Lib.below_freeze hb1 (p := ⟨w.heap.size, 0, none⟩) (Nat.le_refl _) _⟩
theorem clone_any (s : ByteArray) (w : World) (hs : s.size ≤ 1099511627776) :
    Calls Try.prog 88 #[.string s] w fun e w' => e = .returned (.string s) ∧ Below w.heap.size w w' := by
  have h1 := fun W => cloneIn_any s W hs
  go_enter Try.func88, Try.ntmps88
  go_wp2_with (first | (go_at_call 112; refine (h1 _).mono ?_; rintro e w1 ⟨rfl, hb1⟩))
  go_ret
  exact ⟨rfl, hb1⟩
end Go.Proofs.Ytcpgkalafkhlgae.NumR
namespace Go.Proofs.Ytcpgkalafkhlgae.OpR
open Go.ChangeShapes Go.WideShapes Go.ChangeAt Go.RowKit
set_option linter.unusedVariables false

theorem new2 (W : World) (x : PropV) : ∀ j u, x.cells[j]? = some u → (W.alloc (.cells #[.string x.key, .string x.value] 118)).cell? ((⟨W.heap.size, 0, none⟩ : Addr).add j) = some u := by
  intro j u hu
  rw [Addr.add_lit, Nat.zero_add, World.cell?_alloc_at _ _ _ _ rfl]
  simpa [PropV.cells] using hu
theorem owns_stays2 {w w' : World} {base : Nat} {T : TypeId} {c : Nat} {v : Value} {n : Nat} {xs : List Value} (h : w.ownsRow base T c v n xs) (hb : Below w.heap.size w w') : w'.ownsRow base T c v n xs :=
  h.kept (row := none) ⟨hb.os, hb.tape, hb.output, hb.size, fun k hk _ => hb.block k hk⟩ (by cases hv : v.ownBlock <;> simp)
theorem cells2 {w : World} {g : Nat} {v0 v1 : Value} {T : TypeId} (h : w.heap[g]? = some (.cells #[v0, v1] T (0, 0))) : w.cell? ⟨g, 0, none⟩ = some v0 ∧ w.cell? ⟨g, 1, none⟩ = some v1 := by
  exact ⟨by simp [World.cell?, h], by simp [World.cell?, h]⟩
set_option maxRecDepth 100000 in
set_option maxHeartbeats 1000000 in
theorem ownProps_any (l : List PropV) (ao : Option Addr) (cap : Nat) (w : World) (hl : l.length ≤ 1048576) (hA : PropsAt w ao l) (hS : SizedP 1048576 l) :
    Calls Try.prog 99 #[.slice ao l.length cap] w fun e w' => ∃ v, e = .returned v ∧ w'.ownsRow w.heap.size 118 2 v l.length (flatG PropV.cells l) ∧ Below w.heap.size w w' := by
  have HA : Hid (PropsAt w ao l) := ⟨hA⟩
  have HS := hide hS
  clear hA hS
  obtain ⟨i0, hi, hz0, hz1, hz2⟩ := info_parts infoProp
  go_enter Try.func99, Try.ntmps99
  go_wp2
  go_loopw [3, 8] (fun v i wr => ∃ k : Nat, k ≤ l.length ∧ i = .int .i64 k ∧ wr.ownsRow w.heap.size 118 2 v k (flatG PropV.cells (l.take k)) ∧ Below w.heap.size w wr) (fun _ i _ => l.length - (intOf i).toNat)
  case atStart => exact ⟨0, by omega, rfl, World.ownsRow_nil _ _ _ _, Below.refl _ _⟩
  case round =>
    obtain ⟨k, hk, rfl, hO, hb⟩ := hrel
    have HO := hide hO
    clear hO
    by_cases h : k < l.length
    · obtain ⟨b, off, rfl, hlt, ho⟩ := HA.out k h
      obtain ⟨c0, c1⟩ := ho.block (w' := wr) (hb.block b hlt)
      have hsz := HS.out _ (List.getElem_mem h)
      obtain ⟨s, hs⟩ : ∃ s, l[k] = s := ⟨_, rfl⟩
      rw [hs] at c0 c1 hsz
      have HE := hide hs
      have hC0 := fun W => NumR.clone_any s.key W (by omega)
      have hC1 := fun W => NumR.clone_any s.value W (by omega)
      have hi0 : (0 : Int) ≤ (k : Int) := by omega
      have hi1 : (k : Int) < (l.length : Int) := by omega
      have hbs := hb.size
      clear ho hs hsz
      have HB : Hid (Below w.heap.size w wr) := ⟨hb⟩
      have L0 : (wr.alloc (.cells #[.string s.key, .string s.value] 118)).heap[wr.heap.size]? = some (.cells #[.string s.key, .string s.value] 118 (0, 0)) := heap_alloc_new wr _
      have HL0 := hide L0
      have HO0 := hide (HO.out.alloc (.cells #[.string s.key, .string s.value] 118))
      obtain ⟨p0, p1⟩ := cells2 L0
      clear L0
      have m1 : Hid True := ⟨trivial⟩
      have HXB := hide (hb.alloc hb.size (.cells #[.string s.key, .string s.value] 118))
      have hXs : w.heap.size ≤ (wr.alloc (.cells #[.string s.key, .string s.value] 118)).heap.size := by simp; omega
      go_wp2_with fail
      obtain ⟨X, hX⟩ : ∃ X, wr.alloc (.cells #[.string s.key, .string s.value] 118) = X := ⟨_, rfl⟩
      rw [hX] at HL0 HO0 HXB p0 p1 hXs ⊢
      clear hX c0 c1
      have hp0 : X.drew.cell? ⟨wr.heap.size, 0, none⟩ = some (.string s.key) ∧ X.drew.cell? ⟨wr.heap.size, 1, none⟩ = some (.string s.value) := ⟨p0, p1⟩
      go_region_held3 (fun w' => w'.cell? ⟨wr.heap.size, 0, none⟩ = some (.string s.key) ∧ w'.cell? ⟨wr.heap.size, 1, none⟩ = some (.string s.value)) (first | with_reducible exact hp0 | with_reducible exact hp1 | with_reducible exact hp2 | with_reducible exact hp3 | with_reducible exact hp4) (first | (go_at_call 88; clear m1; refine (hC0 _).mono ?_; rintro e x1 ⟨rfl, hx1⟩; have hB1 : Below w.heap.size w x1 := HXB.out.drew.trans (hx1.mono (by simpa using hXs)); have HL1 := hide ((hx1.block _ (Array.getElem?_eq_some_iff.1 HL0.out).1).trans HL0.out); have hp1 := cells2 HL1.out; have HO1 := hide (owns_stays2 HO0.out ((Below.refl _ _).drew.trans hx1)); clear hC0 hp0) | (go_at_call 88; refine (hC1 _).mono ?_; rintro e x2 ⟨rfl, hx2⟩; have hB2 : Below w.heap.size w x2 := hB1.trans (hx2.mono hB1.size); have hB2s := hB2.size; have HL2 := hide ((hx2.block _ (Array.getElem?_eq_some_iff.1 HL1.out).1).trans HL1.out); have hp2 := cells2 HL2.out; have HO2 := hide (owns_stays2 HO1.out hx2); have hp3 := cells2 ((Below.heap_alloc x2 (.cells #[.string s.key, .string s.value] 118) _ (Array.getElem?_eq_some_iff.1 HL2.out).1).trans HL2.out); clear hC1 hp1) | (refine step_append_lies _ (by rfl) _ _ _ (by rfl) w.heap.size 118 i0 _ 2 32 Try.underlying77 hi hz0 hz1 hz2 rfl (by decide) _ k (flatG PropV.cells (l.take k)) (by rfl) (HO2.out.alloc _) ⟨x2.heap.size, 0, none⟩ 1 1 s.cells (by rfl) rfl (new2 x2 _) (one1P _) (by omega) (by unfold maxLen; omega) (by omega) (by simp; omega) (x2.heap.size + 1) (by simp) ?_; intro gn cn y1 hown hgrow hatn hltn; have hp4 := cells2 ((hgrow.block wr.heap.size (by have := (Array.getElem?_eq_some_iff.1 HL2.out).1; simp; omega) (fun e => by have := (HO.out.lt _ e.symm).2; omega)).trans ((Below.heap_alloc x2 (.cells #[.string s.key, .string s.value] 118) _ (Array.getElem?_eq_some_iff.1 HL2.out).1).trans HL2.out))))
      have hB4 : Below w.heap.size w y1 := (hB2.alloc hB2s _).grown hgrow (by simp; omega) (fun j hj => (HO.out.lt j hj).1)
      have HO4 : Hid (y1.ownsRow w.heap.size 118 2 (.slice (some ⟨gn, 0, none⟩) (k + 1) cn) (k + 1) (flatG PropV.cells (l.take (k + 1)))) := ⟨by
        rw [List.take_add_one, List.getElem?_eq_getElem h, HE.out, Option.toList_some, flatG_app]
        simpa [flatG] using hown⟩
      clear hown hgrow hp4 hatn
      go_wp2
      go_roundw
      case rel => exact ⟨k + 1, by omega, by go_num, HO4.out, hB4⟩
      case measure => simp [intOf]; omega
    · obtain rfl : k = l.length := by omega
      have HF : Hid (wr.ownsRow w.heap.size 118 2 u3 l.length (flatG PropV.cells l)) := ⟨by have := HO.out; rwa [List.take_length] at this⟩
      go_wp2
      go_ret
      exact ⟨_, rfl, HF.out, hb⟩

/-- Nodes of which the first have been copied. -/
structure Owned (w : World) (base : Nat) (v : Value) (l d : List NodG) : Prop where
  own : TreeOwn w base v d
  bare : d.map NodG.bare = (l.take d.length).map NodG.bare
theorem TreeOwn.blk {w : World} {base : Nat} {v : Value} {l : List NodG} (h : TreeOwn w base v l) {n : NodG} (hn : n ∈ l) {x : Addr} (hx : n.pao = some x) : base ≤ x.block ∧ x.block < w.heap.size := by
  have := (h.props n hn).lt x.block (by rw [hx]; rfl)
  exact this
/-- A node put behind the others: its props in a row of their own, laid since. -/
theorem TreeOwn.snoc {w w1 w2 : World} {base : Nat} {v v2 : Value} {l : List NodG} {n : NodG} (h : TreeOwn w base v l) (hb1 : Below w.heap.size w w1)
    (hp : w1.ownsRow w.heap.size 118 2 (.slice n.pao n.props.length n.pcap) n.props.length (flatG PropV.cells n.props)) (hbase : base ≤ w.heap.size) {o : Obj}
    (hg : (w1.alloc o).grownBy w2 v.ownBlock) (hat : v2.ownBlock = v.ownBlock ∨ v2.ownBlock = some (w1.heap.size + 1))
    (hr : w2.ownsRow base 79 4 v2 (l.length + 1) (flatG NodG.cells (l ++ [n]))) : TreeOwn w2 base v2 (l ++ [n]) := by
  have hlt : ∀ k, v.ownBlock = some k → base ≤ k ∧ k < w.heap.size := h.row.lt
  have hnp : ∀ x, n.pao = some x → w.heap.size ≤ x.block ∧ x.block < w1.heap.size := fun x hx => hp.lt x.block (by rw [hx]; rfl)
  refine ⟨by rw [List.length_append]; exact hr, fun m hm => ?_, ?_, fun m hm x hx => ?_⟩
  · rcases List.mem_append.1 hm with hm | hm
    · refine ((owns_stays2 (h.props m hm) hb1).alloc o).kept hg ?_
      cases hx : m.pao with
      | none => exact .inl rfl
      | some x =>
        refine .inr fun e => h.off m hm x hx ?_
        exact e.symm
    · obtain rfl := List.mem_singleton.1 hm
      refine ((owns_lower hp hbase).alloc o).kept hg ?_
      cases hx : m.pao with
      | none => exact .inl rfl
      | some x =>
        refine .inr fun e => ?_
        have h1 := (hlt x.block e.symm).2
        have h2 := (hnp x hx).1
        omega
  · rw [List.pairwise_append]
    refine ⟨h.apart, by simp, fun a ha b hb x y hx hy => ?_⟩
    obtain rfl := List.mem_singleton.1 hb
    have h1 := (h.blk ha hx).2
    have h2 := (hnp y hy).1
    omega
  · rcases List.mem_append.1 hm with hm | hm
    · rcases hat with e | e
      · rw [e]; exact h.off m hm x hx
      · rw [e]
        have h1 := (h.blk hm hx).2
        have h2 := hb1.size
        simp
        omega
    · obtain rfl := List.mem_singleton.1 hm
      have h2 := hnp x hx
      rcases hat with e | e
      · rw [e]
        intro e'
        have := (hlt x.block e').2
        omega
      · rw [e]
        simp
        omega
end Go.Proofs.Ytcpgkalafkhlgae.OpR
namespace Go.Proofs.Ytcpgkalafkhlgae.OpR
open Go.ChangeShapes Go.WideShapes Go.ChangeAt Go.RowKit
set_option linter.unusedVariables false

theorem Box4.set2 {w c : World} {g : Nat} {n : NodG} (h : Box4 w c g n) (hg : w.heap.size ≤ g) : Box4 w (c.setCell ⟨g, 2, none⟩ (.string n.name)) g n :=
  ⟨h.below.setCell hg _, (set_block h.lies 2 (.string n.name)).trans rfl⟩
theorem Box4.set3 {w c : World} {g : Nat} {n : NodG} (h : Box4 w c g n) (hg : w.heap.size ≤ g) (ao : Option Addr) (cap : Nat) : Box4 w (c.setCell ⟨g, 3, none⟩ (.slice ao n.props.length cap)) g { n with pao := ao, pcap := cap } :=
  ⟨h.below.setCell hg _, (set_block h.lies 3 (.slice ao n.props.length cap)).trans rfl⟩
theorem new4g (W : World) (n : NodG) (T : TypeId) : ∀ j u, n.cells[j]? = some u → (W.alloc (.cells #[.int .i64 n.id, .int .i64 n.parent, .string n.name, .slice n.pao n.props.length n.pcap] T)).cell? ((⟨W.heap.size, 0, none⟩ : Addr).add j) = some u := by
  intro j u hu
  rw [Addr.add_lit, Nat.zero_add, World.cell?_alloc_at _ _ _ _ rfl]
  simpa [NodG.cells] using hu
theorem one4g (x : NodG) : ∀ u ∈ x.cells, u.oneCell' = true := by
  intro u hu
  simp only [NodG.cells, List.mem_cons, List.not_mem_nil, or_false] at hu
  rcases hu with rfl | rfl | rfl | rfl <;> rfl
theorem new4s (x : World) (g : Nat) (n : NodG) (ao : Option Addr) (cap : Nat) : ∀ j u, (NodG.cells ⟨n.id, n.parent, n.name, n.props, ao, cap⟩)[j]? = some u → ((x.setCell ⟨g, 3, none⟩ (.slice ao n.props.length cap)).alloc (.cells #[.int .i64 n.id, .int .i64 n.parent, .string n.name, .slice ao n.props.length cap] 79)).cell? ((⟨x.heap.size, 0, none⟩ : Addr).add j) = some u := by
  have := new4g (x.setCell ⟨g, 3, none⟩ (.slice ao n.props.length cap)) ⟨n.id, n.parent, n.name, n.props, ao, cap⟩ 79
  rwa [show (x.setCell ⟨g, 3, none⟩ (.slice ao n.props.length cap)).heap.size = x.heap.size by simp [World.setCell]] at this
theorem own_row {wr x : World} {n : NodG} {base k : Nat} {v : Value} {d : List NodG} (h : Box4 wr x wr.heap.size n) (hr : wr.ownsRow base 79 4 v d.length (flatG NodG.cells d)) (hk : d.length = k) (ao : Option Addr) (cap : Nat) (o : Obj) :
    ((x.setCell ⟨wr.heap.size, 3, none⟩ (.slice ao n.props.length cap)).alloc o).ownsRow base 79 4 v k (flatG NodG.cells d) := by
  rw [← hk]
  exact (owns_stays2 hr (h.set3 (Nat.le_refl _) ao cap).below).alloc o
theorem own_props {wr x1 x2 : World} {n : NodG} {ao : Option Addr} {cap : Nat} (h : x2.ownsRow (x1.setCell ⟨wr.heap.size, 2, none⟩ (.string n.name)).heap.size 118 2 (.slice ao n.props.length cap) n.props.length (flatG PropV.cells n.props)) (hs : wr.heap.size < x1.heap.size) :
    (x2.setCell ⟨wr.heap.size, 3, none⟩ (.slice ao n.props.length cap)).ownsRow wr.heap.size 118 2 (.slice ao n.props.length cap) n.props.length (flatG PropV.cells n.props) := by
  have e : (x1.setCell ⟨wr.heap.size, 2, none⟩ (.string n.name)).heap.size = x1.heap.size := by simp [World.setCell]
  rw [e] at h
  exact owns_lower (ownsRow_setCell_below h hs _) (Nat.le_of_lt hs)
set_option maxRecDepth 100000 in
set_option maxHeartbeats 1000000 in
theorem ownNodes_any (l : List NodG) (ao : Option Addr) (cap : Nat) (w : World) (hl : l.length ≤ 1048576) (hA : NodesAt w ao l) (hS : ∀ n ∈ l, Sized1 1048576 n) :
    Calls Try.prog 66 #[.slice ao l.length cap] w fun e w' => ∃ v d, e = .returned v ∧ TreeOwn w' w.heap.size v d ∧ d.map NodG.bare = l.map NodG.bare ∧ Below w.heap.size w w' := by
  have HA : Hid (NodesAt w ao l) := ⟨hA⟩
  have HS := hide hS
  clear hA hS
  obtain ⟨i0, hi, hz0, hz1, hz2⟩ := info_parts infoNode
  go_enter Try.func66, Try.ntmps66
  go_wp2
  go_loopw [3, 8] (fun v i wr => ∃ d : List NodG, d.length ≤ l.length ∧ i = .int .i64 d.length ∧ Owned wr w.heap.size v l d ∧ Below w.heap.size w wr) (fun _ i _ => l.length - (intOf i).toNat)
  case atStart => exact ⟨[], by simp, rfl, ⟨⟨World.ownsRow_nil _ _ _ _, by simp, by simp, by simp⟩, by simp⟩, Below.refl _ _⟩
  case round =>
    obtain ⟨d, hk, rfl, hO, hb⟩ := hrel
    have HO := hide hO
    have HB := hide hb
    have hbs := hb.size
    obtain ⟨k, hkd⟩ : ∃ k, d.length = k := ⟨_, rfl⟩
    have HK := hide hkd
    simp only [hkd] at hk ⊢
    clear hkd hO
    by_cases h : k < l.length
    · obtain ⟨b, off, rfl, hlt, ho, hp⟩ := HA.out k h
      obtain ⟨c0, c1, c2, c3⟩ := ho.block (w' := wr) (hb.block b hlt)
      have hsz := HS.out _ (List.getElem_mem h)
      have HP := hide (hp.stays hb)
      obtain ⟨n, hn⟩ : ∃ n, l[k] = n := ⟨_, rfl⟩
      rw [hn] at c0 c1 c2 c3 hsz HP
      have HE := hide hn
      obtain ⟨hs1, hs2, hs3⟩ := hsz
      have hC0 := fun W => NumR.clone_any n.name W (by omega)
      have hPr := fun W (hW : Below wr.heap.size wr W) => ownProps_any n.props n.pao n.pcap W hs2 (HP.out.stays hW) hs3
      have hi0 : (0 : Int) ≤ (k : Int) := by omega
      have hi1 : (k : Int) < (l.length : Int) := by omega
      have H0 := hide (Box4.start wr n)
      clear ho hp hn hs1 hs2 hs3
      go_wp2_with (first | (go_at_call 88; refine (hC0 _).mono ?_; rintro e x1 ⟨rfl, hx1⟩; have hb1 := H0.out.step hx1; have H1 := hide hb1; obtain ⟨k0, k1, k2, k3, f0, f1, f2, f3⟩ := cells4 hb1.lies; clear hC0 c0 c1 c2 c3 hb1 hx1) | (go_at_call 99; refine (hPr _ (H1.out.set2 (Nat.le_refl _)).below).mono ?_; rintro e x2 ⟨v2, rfl, ho2, hx2⟩; obtain ⟨ao2, cp2, rfl, _, _⟩ := owns_atP ho2; have hb2 := (H1.out.set2 (Nat.le_refl _)).step hx2; have H2 := hide hb2; have HO2 := hide ho2; clear k0 k1 k2 k3 f0 f1 f2 f3; obtain ⟨k0, k1, k2, k3, f0, f1, f2, f3⟩ := cells4 hb2.lies; clear hPr ho2 hb2 hx2; have HOW := hide (own_row H2.out HO.out.own.row HK.out ao2 cp2 (.cells #[.int .i64 n.id, .int .i64 n.parent, .string n.name, .slice ao2 n.props.length cp2] 79)); have HNW := hide (new4s x2 wr.heap.size n ao2 cp2); have hY2 := H2.out.below.size) | (at_builtin; refine wpList_append_lies _ rfl _ _ 41 rfl w.heap.size 79 i0 _ 4 56 Try.underlying41 hi hz0 hz1 hz2 rfl (by decide) _ k (flatG NodG.cells d) rfl HOW.out ⟨x2.heap.size, 0, none⟩ 1 1 (NodG.cells ⟨n.id, n.parent, n.name, n.props, ao2, cp2⟩) rfl rfl HNW.out (one4g _) (by omega) (by unfold maxLen; omega) (by omega) (by simp [World.setCell]; omega) (x2.heap.size + 1) (by simp [World.setCell]) ?_; intro gn cn y1 hown hgrow hatn hltn))
      have hB4 : Below w.heap.size w y1 := (((HB.out.trans (H2.out.below.mono hbs)).setCell (p := ⟨wr.heap.size, 3, none⟩) hbs _).alloc (by simp [World.setCell]; omega) _).grown hgrow (by simp [World.setCell]; omega) (fun j hj => (HO.out.own.row.lt j hj).1)
      have hTO : TreeOwn y1 w.heap.size (.slice (some ⟨gn, 0, none⟩) (k + 1) cn) (d ++ [⟨n.id, n.parent, n.name, n.props, ao2, cp2⟩]) := by
        refine HO.out.own.snoc (n := ⟨n.id, n.parent, n.name, n.props, ao2, cp2⟩) (H2.out.set3 (Nat.le_refl _) ao2 cp2).below (own_props (n := n) HO2.out (Array.getElem?_eq_some_iff.1 H1.out.lies).1) hbs hgrow ?_ ?_
        · rcases hatn with e | e
          · exact .inl e.symm
          · right
            simp [Value.ownBlock, World.setCell, e]
        · rw [HK.out, flatG_app]
          simpa [flatG] using hown
      have HTO := hide hTO
      clear hown hgrow hatn hTO
      go_wp2
      go_roundw
      case rel =>
        refine ⟨d ++ [⟨n.id, n.parent, n.name, n.props, ao2, cp2⟩], by simp [HK.out]; omega, by simp [HK.out], ⟨HTO.out, ?_⟩, hB4⟩
        have hd : d.length < l.length := by rw [HK.out]; exact h
        rw [List.length_append, List.map_append, HO.out.bare]
        simp only [List.length_cons, List.length_nil, Nat.zero_add, List.map_cons, List.map_nil, List.map_take]
        rw [List.take_add_one, List.getElem?_eq_getElem (by simpa using hd)]
        have e : (List.map NodG.bare l)[d.length]'(by simpa using hd) = NodG.bare ⟨n.id, n.parent, n.name, n.props, ao2, cp2⟩ := by
          rw [List.getElem_map]
          simp only [HK.out, HE.out]
          rfl
        rw [e]
        rfl
      case measure => simp [intOf]; omega
    · obtain rfl : k = l.length := by omega
      have HF := hide HO.out.own
      go_wp2
      go_ret
      exact ⟨_, d, rfl, HF.out, by have := HO.out.bare; rwa [HK.out, List.take_length] at this, hb⟩
end Go.Proofs.Ytcpgkalafkhlgae.OpR
namespace Go.Proofs.Ytcpgkalafkhlgae.OpR
open Go.ChangeShapes Go.WideShapes Go.ChangeAt Go.RowKit
set_option linter.unusedVariables false

theorem rises_pw {l : List NodG} (h : RisesN l) : l.Pairwise fun a b => a.id < b.id := by
  rw [List.pairwise_iff_getElem]
  exact fun i j hi hj hij => rises_lt h i j hij hj
theorem sorted_is : ∀ {s l : List NodG}, s.Perm l → OrdN s → (l.Pairwise fun a b => a.id < b.id) → s = l
  | [], l, hp, _, _ => (List.nil_perm.1 hp).symm
  | x :: s, [], hp, _, _ => absurd hp.length_eq (by simp)
  | x :: s, y :: l, hp, ho, hl => by
    have ho' := List.pairwise_cons.1 ho
    have hl' := List.pairwise_cons.1 hl
    have hxy : x = y := by
      rcases List.mem_cons.1 (hp.mem_iff.1 (List.mem_cons_self (a := x) (l := s))) with e | hx
      · exact e
      · rcases List.mem_cons.1 (hp.mem_iff.2 (List.mem_cons_self (a := y) (l := l))) with e | hy
        · exact e.symm
        · have h1 := hl'.1 x hx
          have h2 := (leN_iff x y).1 (ho'.1 y hy)
          omega
    subst hxy
    rw [sorted_is (List.Perm.cons_inv hp) ho'.2 hl'.2]
theorem kvOf_snd (l : List NodG) : (kvOf l).map Prod.snd = l := by simp [kvOf, Function.comp_def]
theorem kvOf_fst (l : List NodG) : (kvOf l).map Prod.fst = l.map NodG.id := by simp [kvOf, Function.comp_def]
theorem kvOf_nodup {l : List NodG} (h : RisesN l) : ((kvOf l).map Prod.fst).Nodup := by
  rw [kvOf_fst]
  exact List.Pairwise.map _ (fun a b hab => by omega) (rises_pw h)
theorem perm_of {l xs : List NodG} (h : AllK (kvOf l) xs) (hr : RisesN l) : xs.Perm l := by
  have := h.perm (kvOf_nodup hr)
  rwa [kvOf_snd] at this
set_option maxRecDepth 100000 in
set_option maxHeartbeats 1000000 in
theorem treeM_any (l : List NodG) (B : Nat) (w : World) (hl : l.length ≤ 400) (hr : RisesN l) (hS : ∀ n ∈ l, Sized1 1048576 n) (hP : ∀ n ∈ l, PropsAt w n.pao n.props) (hM : MapAt w B (kvOf l)) :
    Calls Try.prog 68 #[.map (some B)] w fun e w' => ∃ v d, e = .returned (.agg #[v]) ∧ TreeOwn w' w.heap.size v d ∧ d.map NodG.bare = l.map NodG.bare ∧ Below w.heap.size w w' := by
  have HM := hide hM
  have HR := hide hr
  have HS := hide hS
  have HP := hide hP
  have H1 := hide (Box1.start w (.slice none 0 0) 43)
  clear hM hr hS hP
  go_enter Try.func68, Try.ntmps68
  go_wp2_with (first | (go_at_call 103; refine (values_any B _).mono ?_; rintro e w1 ⟨rfl, hv1, hb1⟩; have H2 := hide (H1.out.step hb1); have hv1' : w1.heap[w.heap.size + 1]? = some (.cells #[.map (some B)] 87 (0, 0)) := (by simpa using hv1); have HV := hide hv1'; have HM1 := hide (HM.out.stays H2.out.below); clear hv1 hv1' hb1) | (go_at_call 102; refine (collect_any _ B (kvOf l) w1 (by rw [kvOf_len]; omega) (Array.getElem?_eq_some_iff.1 HV.out).1 (cells1 HV.out).1 HM1.out).mono ?_; rintro e w2 ⟨v2, xs, rfl, hall, ho2, hb2⟩; have hpm : xs.Perm l := perm_of hall HR.out; have HPM := hide hpm; have H3 := hide (H2.out.step hb2); obtain ⟨a2, c2, rfl, hc2, hA2⟩ := owns_atN ho2; have HA2 := hide hA2; have hxl : xs.length ≤ 400 := (by rw [hpm.length_eq]; exact hl); clear ho2 hb2 hall hpm hA2) | (go_at_call 104; refine (sortedN_any xs.length xs a2 c2 w2 (Nat.le_refl _) hxl hc2 HA2.out).mono ?_; rintro e w3 ⟨v3, s3, rfl, hp3, ho3, hw3, hb3⟩; have hsl : s3 = l := sorted_is (hp3.trans HPM.out) ho3 (rises_pw HR.out); subst hsl; have H4 := hide (H3.out.step hb3); obtain ⟨a3, c3, rfl, hc3, hA3⟩ := owns_atN hw3; have HA3 := hide hA3; clear hp3 ho3 hw3 hb3 hA3) | (go_at_call 66; refine (ownNodes_any s3 a3 c3 w3 (by omega) (HA3.out.nodes fun n hn => (HP.out n hn).stays H4.out.below) HS.out).mono ?_; rintro e w4 ⟨v4, d4, rfl, ht4, hd4, hb4⟩; obtain ⟨a4, c4, rfl, _, _⟩ := owns_atN ht4.row; have H5 := hide (H4.out.step hb4); have HT4 := hide ht4; have HD4 := hide hd4; have hc := H5.out.cell; have hf := (cells1 H5.out.lies).2; clear ht4 hd4))
  have hw3 : w.heap.size < w3.heap.size := (Array.getElem?_eq_some_iff.1 H4.out.lies).1
  refine bodyPost_ret (v := .agg #[.slice a4 d4.length c4]) (by simp [results, Try.results68, go_sem, hc]) rfl ⟨_, d4, rfl, ?_, HD4.out, H5.out.below.setCell (p := ⟨w.heap.size, 0, none⟩) (Nat.le_refl _) _⟩
  refine (HT4.out.moved (fun g hg => ?_)).lower (Nat.le_of_lt hw3)
  exact Below.heap_setCell _ _ _ _ (by simp; omega)
end Go.Proofs.Ytcpgkalafkhlgae.OpR
namespace Go.Proofs.Ytcpgkalafkhlgae.OpR
set_option linter.unusedVariables false

theorem bl_irrefl : ∀ a : List UInt8, Op.bytesLess a a = false
  | [] => rfl
  | x :: a => by simp [Op.bytesLess, bl_irrefl a]
theorem bl_trans : ∀ {a b c : List UInt8}, Op.bytesLess a b = true → Op.bytesLess b c = true → Op.bytesLess a c = true
  | a, [], c, h, _ => by cases a <;> simp [Op.bytesLess] at h
  | a, b :: bs, [], _, h => by simp [Op.bytesLess] at h
  | [], b :: bs, c :: cs, _, _ => by simp [Op.bytesLess]
  | a :: aa, b :: bs, c :: cs, h1, h2 => by
    simp only [Op.bytesLess, Bool.or_eq_true, decide_eq_true_eq, Bool.and_eq_true, beq_iff_eq, UInt8.lt_iff_toNat_lt] at *
    rcases h1 with h1 | ⟨rfl, h1⟩ <;> rcases h2 with h2 | ⟨rfl, h2⟩
    · left; omega
    · left; exact h1
    · left; exact h2
    · right; exact ⟨rfl, bl_trans h1 h2⟩
theorem bl_tri : ∀ {a b : List UInt8}, Op.bytesLess a b = false → Op.bytesLess b a = false → a = b
  | [], [], _, _ => rfl
  | [], b :: bs, h, _ => by simp [Op.bytesLess] at h
  | a :: aa, [], _, h => by simp [Op.bytesLess] at h
  | a :: aa, b :: bs, h1, h2 => by
    simp only [Op.bytesLess, Bool.or_eq_false_iff, decide_eq_false_iff_not, Bool.and_eq_false_iff, beq_eq_false_iff_ne, UInt8.lt_iff_toNat_lt] at *
    have e : a = b := UInt8.toNat_inj.1 (by omega)
    subst e
    rw [bl_tri (h1.2.resolve_left (fun h => h rfl)) (h2.2.resolve_left (fun h => h rfl))]
theorem toList_inj {a b : ByteArray} (h : a.toList = b.toList) : a = b := by
  rw [ByteArray.toList_eq, ByteArray.toList_eq] at h
  exact ByteArray.ext (Array.toList_inj.1 h)
theorem kl_irrefl (a : ByteArray) : keyLt a a = false := bl_irrefl _
theorem kl_trans {a b c : ByteArray} (h1 : keyLt a b = true) (h2 : keyLt b c = true) : keyLt a c = true := bl_trans h1 h2
theorem kl_tri {a b : ByteArray} (h1 : keyLt a b = false) (h2 : keyLt b a = false) : a = b := toList_inj (bl_tri h1 h2)
theorem kl_asymm {a b : ByteArray} (h : keyLt a b = true) : keyLt b a = false := by
  cases e : keyLt b a with
  | false => rfl
  | true => have := kl_trans h e; rw [kl_irrefl] at this; cases this
/-- In order, no two alike. -/
def RiseP (l : List PropV) : Prop := l.Pairwise fun a b => keyLt a.key b.key = true
theorem rise_pair {l : List PropV} (h : ∀ i (h : i + 1 < l.length), keyLt l[i].key l[i + 1].key = true) : RiseP l := by
  rw [RiseP, List.pairwise_iff_getElem]
  intro i j hi hj hij
  induction hij with
  | refl => exact h i hj
  | step hm ih => exact kl_trans (ih (by omega)) (h _ hj)
theorem pair_rise {l : List PropV} (h : RiseP l) : ∀ i (h : i + 1 < l.length), keyLt l[i].key l[i + 1].key = true := fun i hi => List.pairwise_iff_getElem.1 h i (i + 1) (by omega) hi (by omega)
/-- A prop set: in its place, in the place of one of its key. -/
def setP (p : PropV) : List PropV → List PropV
  | [] => [p]
  | q :: r => if keyLt q.key p.key then q :: setP p r else if q.key = p.key then p :: r else p :: q :: r
def hasKey (l : List PropV) (k : ByteArray) : Bool := l.any fun q => decide (q.key = k)
theorem setP_len (p : PropV) : ∀ l : List PropV, RiseP l → (setP p l).length = if hasKey l p.key then l.length else l.length + 1
  | [], _ => by simp [setP, hasKey]
  | q :: r, h => by
    have hr := List.pairwise_cons.1 h
    unfold setP
    by_cases h1 : keyLt q.key p.key = true
    · have hne : ¬ q.key = p.key := fun e => by rw [e, kl_irrefl] at h1; cases h1
      have e : hasKey (q :: r) p.key = hasKey r p.key := by simp [hasKey, hne]
      rw [if_pos h1, List.length_cons, setP_len p r hr.2, e]
      split <;> rfl
    · rw [if_neg h1]
      by_cases h2 : q.key = p.key
      · simp [h2, hasKey]
      · rw [if_neg h2]
        have hno : hasKey (q :: r) p.key = false := by
          simp only [hasKey, List.any_cons, h2, decide_false, Bool.false_or]
          rw [List.any_eq_false]
          intro x hx
          simp only [decide_eq_true_eq]
          intro e
          have hqx := hr.1 x hx
          rw [e] at hqx
          exact h1 hqx
        simp [hno]
theorem setP_mem {p : PropV} : ∀ {l : List PropV} {x : PropV}, x ∈ setP p l → x = p ∨ x ∈ l
  | [], x, h => by simp [setP] at h; exact .inl h
  | q :: r, x, h => by
    unfold setP at h
    split at h
    · rcases List.mem_cons.1 h with rfl | h
      · exact .inr (by simp)
      · exact (setP_mem h).imp id (fun h => by simp [h])
    · split at h
      · rcases List.mem_cons.1 h with rfl | h
        · exact .inl rfl
        · exact .inr (by simp [h])
      · rcases List.mem_cons.1 h with rfl | h
        · exact .inl rfl
        · exact .inr h
theorem setP_rise {p : PropV} : ∀ {l : List PropV}, RiseP l → RiseP (setP p l)
  | [], _ => by simp [setP, RiseP]
  | q :: r, h => by
    have hr := List.pairwise_cons.1 h
    unfold setP
    by_cases h1 : keyLt q.key p.key = true
    · rw [if_pos h1]
      refine List.pairwise_cons.2 ⟨fun x hx => ?_, setP_rise hr.2⟩
      rcases setP_mem hx with rfl | hx
      · exact h1
      · exact hr.1 x hx
    · rw [if_neg h1]
      by_cases h2 : q.key = p.key
      · rw [if_pos h2]
        exact List.pairwise_cons.2 ⟨fun x hx => by rw [← h2]; exact hr.1 x hx, hr.2⟩
      · rw [if_neg h2]
        have hpq : keyLt p.key q.key = true := by
          cases e : keyLt p.key q.key with
          | true => rfl
          | false => exact absurd (kl_tri (by simpa using h1) e) h2
        refine List.pairwise_cons.2 ⟨fun x hx => ?_, h⟩
        rcases List.mem_cons.1 hx with rfl | hx
        · exact hpq
        · exact kl_trans hpq (hr.1 x hx)
/-- What impl's way makes of it. -/
theorem setP_mrg (p : PropV) : ∀ {l : List PropV}, RiseP l → mrgP (l.filter fun q => !decide (q.key = p.key)) [p] = setP p l
  | [], _ => by rw [List.filter_nil, mrgP_nil_left]; rfl
  | q :: r, h => by
    have hr := List.pairwise_cons.1 h
    unfold setP
    by_cases h1 : keyLt q.key p.key = true
    · have hne : ¬ q.key = p.key := fun e => by rw [e, kl_irrefl] at h1; cases h1
      rw [if_pos h1, List.filter_cons_of_pos (by simp [hne]), mrgP_left _ _ (show ltP p q = false from kl_asymm h1), setP_mrg p hr.2]
    · rw [if_neg h1]
      have hkeep : (r.filter fun x => !decide (x.key = p.key)) = r ∨ ¬ q.key = p.key := by
        by_cases h2 : q.key = p.key
        · left
          refine List.filter_eq_self.2 fun x hx => ?_
          have hqx := hr.1 x hx
          rw [h2] at hqx
          simp only [Bool.not_eq_true', decide_eq_false_iff_not]
          intro e
          rw [e, kl_irrefl] at hqx
          cases hqx
        · exact .inr h2
      by_cases h2 : q.key = p.key
      · rw [if_pos h2, List.filter_cons_of_neg (by simp [h2])]
        rcases hkeep with e | e
        · rw [e]
          cases r with
          | nil => rw [mrgP_nil_left]
          | cons y s =>
            have : keyLt p.key y.key = true := by rw [← h2]; exact hr.1 y (by simp)
            rw [mrgP_right _ _ (show ltP p y = true from this), mrgP_nil_right]
        · exact absurd h2 e
      · rw [if_neg h2, List.filter_cons_of_pos (by simp [h2])]
        have hpq : keyLt p.key q.key = true := by
          cases e : keyLt p.key q.key with
          | true => rfl
          | false => exact absurd (kl_tri (by simpa using h1) e) h2
        rw [mrgP_right _ _ (show ltP p q = true from hpq), mrgP_nil_right]
        congr 2
        refine List.filter_eq_self.2 fun x hx => ?_
        have hpx := kl_trans hpq (hr.1 x hx)
        simp only [Bool.not_eq_true', decide_eq_false_iff_not]
        intro e
        rw [e, kl_irrefl] at hpx
        cases hpx
/-- What spec's way makes of it: the place of the first key that isn't less. -/
def plP (p : PropV) : List PropV → Nat
  | [] => 0
  | q :: r => if keyLt q.key p.key then plP p r + 1 else 0
theorem setP_at (p : PropV) : ∀ (l : List PropV), setP p l = l.take (plP p l) ++ p :: l.drop (plP p l + if (l[plP p l]?.map fun q => decide (q.key = p.key)) = some true then 1 else 0)
  | [] => by simp [setP, plP]
  | q :: r => by
    unfold setP plP
    by_cases h1 : keyLt q.key p.key = true
    · have e : ∀ c, List.drop (plP p r + 1 + c) (q :: r) = List.drop (plP p r + c) r := fun c => by rw [Nat.add_right_comm, List.drop_succ_cons]
      rw [if_pos h1, if_pos h1, setP_at p r]
      simp only [List.getElem?_cons_succ, List.take_succ_cons, List.cons_append, e]
    · rw [if_neg h1, if_neg h1]
      by_cases h2 : q.key = p.key
      · simp [h2]
      · simp [h2]
theorem propsOk_set {l : List PropV} {p : PropV} (h : PropsOk l) (hp : propOk p = true) : propsOk (setP p l) = (hasKey l p.key || decide (l.length < 20)) := by
  have hr := rise_pair h.2.2
  have hl := setP_len p l hr
  have h20 := h.1
  by_cases hk : hasKey l p.key = true
  · rw [hk, Bool.true_or]
    rw [hk, if_pos rfl] at hl
    exact propsOk_yes ⟨by omega, fun x hx => by rcases setP_mem hx with rfl | hx; exact hp; exact h.2.1 x hx, pair_rise (setP_rise hr)⟩
  · have hk' : hasKey l p.key = false := by simpa using hk
    rw [hk', Bool.false_or]
    rw [hk'] at hl
    simp only [Bool.false_eq_true, if_false] at hl
    by_cases h2 : l.length < 20
    · rw [decide_eq_true h2]
      exact propsOk_yes ⟨by omega, fun x hx => by rcases setP_mem hx with rfl | hx; exact hp; exact h.2.1 x hx, pair_rise (setP_rise hr)⟩
    · rw [decide_eq_false h2]
      exact propsOk_no fun hh => by have := hh.1; omega
end Go.Proofs.Ytcpgkalafkhlgae.OpR
namespace Go.Proofs.Ytcpgkalafkhlgae.OpR
open Go.ChangeShapes Go.WideShapes Go.ChangeAt Go.RowKit
set_option linter.unusedVariables false

structure Box2 (w c : World) (g : Nat) (p : PropV) : Prop where
  below : Below w.heap.size w c
  lies : c.heap[g]? = some (.cells #[.string p.key, .string p.value] 118 (0, 0))
theorem Box2.start (w : World) (p : PropV) : Box2 w (w.alloc (.cells #[.string p.key, .string p.value] 118)) w.heap.size p := ⟨(Below.refl _ _).alloc (Nat.le_refl _) _, heap_alloc_new w _⟩
theorem Box2.step {w c c' : World} {g : Nat} {p : PropV} (h : Box2 w c g p) (hb : Below c.heap.size c c') : Box2 w c' g p :=
  ⟨h.below.trans (hb.mono h.below.size), (hb.block _ (Array.getElem?_eq_some_iff.1 h.lies).1).trans h.lies⟩
theorem Box2.other {w c : World} {g : Nat} {p : PropV} (h : Box2 w c g p) (o : Obj) : Box2 w (c.alloc o) g p := h.step ((Below.refl _ _).alloc (Nat.le_refl _) _)
theorem Box2.grown {w c c' : World} {g : Nat} {p : PropV} {row : Option Nat} (h : Box2 w c g p) (hg : c.grownBy c' row) (hr : ∀ k, row = some k → w.heap.size ≤ k ∧ g < k) : Box2 w c' g p := by
  refine ⟨h.below.grown hg h.below.size (fun k e => (hr k e).1), (hg.block g (Array.getElem?_eq_some_iff.1 h.lies).1 (fun e => ?_)).trans h.lies⟩
  have := (hr g e.symm).2
  omega
theorem one_prop (W : World) (s : PropV) : PropsAt (W.alloc (.cells #[.string s.key, .string s.value] 118)) (some ⟨W.heap.size, 0, none⟩) [s] :=
  InG.propsAt (T := 118) (l := [s]) (heap_alloc_new W _)
def keepP (p : PropV) (l : List PropV) : List PropV := l.filter fun q => !decide (q.key = p.key)
set_option maxRecDepth 100000 in
set_option maxHeartbeats 1000000 in
theorem withProp_any (l : List PropV) (ao : Option Addr) (cap : Nat) (p : PropV) (w : World) (hl : l.length ≤ 20) (hA : PropsAt w ao l) :
    Calls Try.prog 100 #[.slice ao l.length cap, p.agg] w fun e w' => ∃ v, e = .returned v ∧ w'.ownsRow w.heap.size 118 2 v (mrgP (keepP p l) [p]).length (flatG PropV.cells (mrgP (keepP p l) [p])) ∧ Below w.heap.size w w' := by
  have HA : Hid (PropsAt w ao l) := ⟨hA⟩
  have H0 := hide (Box2.start w p)
  clear hA
  unfold PropV.agg
  go_enter Try.func100, Try.ntmps100
  go_wp2
  go_loopw [5, 10] (fun v i wr => ∃ k : Nat, k ≤ l.length ∧ i = .int .i64 k ∧ wr.ownsRow (w.heap.size + 1) 118 2 v (keepP p (l.take k)).length (flatG PropV.cells (keepP p (l.take k))) ∧ Box2 w wr w.heap.size p) (fun _ i _ => l.length - (intOf i).toNat)
  case atStart => exact ⟨0, by omega, rfl, World.ownsRow_nil _ _ _ _, H0.out⟩
  case round =>
    obtain ⟨k, hk, rfl, hO, hbx⟩ := hrel
    have HO := hide hO
    have HB := hide hbx
    obtain ⟨q0, q1⟩ := cells2 hbx.lies
    have hbs := hbx.below.size
    have hgs := (Array.getElem?_eq_some_iff.1 hbx.lies).1
    by_cases h : k < l.length
    · obtain ⟨b, off, rfl, hlt, ho⟩ := HA.out k h
      obtain ⟨c0, c1⟩ := ho.block (w' := wr) (hbx.below.block b hlt)
      obtain ⟨s, hs⟩ : ∃ s, l[k] = s := ⟨_, rfl⟩
      rw [hs] at c0 c1
      have hi0 : (0 : Int) ≤ (k : Int) := by omega
      have hi1 : (k : Int) < (l.length : Int) := by omega
      have htk : l.take (k + 1) = l.take k ++ [s] := by rw [List.take_add_one, List.getElem?_eq_getElem h, hs]; rfl
      have hkl : (keepP p (l.take k)).length ≤ k := Nat.le_trans (List.length_filter_le _ _) (by simp; omega)
      clear ho hs hO hbx
      by_cases he : s.key = p.key
      · have HF : Hid (keepP p (l.take (k + 1)) = keepP p (l.take k)) := ⟨by rw [htk]; simp [keepP, he]⟩
        clear htk
        have HN := hide he
        go_wp2
        go_roundw
        case rel => exact ⟨k + 1, by omega, by go_num, by rw [HF.out]; exact HO.out.alloc _, HB.out.other _⟩
        case measure => simp [intOf]; omega
      · have HF : Hid (keepP p (l.take (k + 1)) = keepP p (l.take k) ++ [s]) := ⟨by rw [htk]; simp [keepP, he]⟩
        have b0 : (s.key.toList == p.key.toList) = false := beq_eq_false_iff_ne.2 fun e => he (toList_inj e)
        have b1 : (s.key.toList != p.key.toList) = true := by rw [bne, b0]; rfl
        clear htk
        go_wp2_with (at_builtin; refine wpList_append_P rfl _ _ rfl (w.heap.size + 1) _ (keepP p (l.take k)) rfl ((HO.out.alloc _).alloc _) (some ⟨wr.heap.size + 1, 0, none⟩) [s] 1 rfl (by have := one_prop (wr.alloc (.cells #[.string s.key, .string s.value] 118)) s; simpa using this) (by simp; omega) (by simp; omega) ?_; intro v1 w1 hown1 hgr1 hne1; clear hne1)
        have hgr : ((wr.alloc (.cells #[.string s.key, .string s.value] 118)).alloc (.cells #[.string s.key, .string s.value] 118)).grownBy w1 u5.ownBlock := hgr1
        go_roundw
        case rel => exact ⟨k + 1, by omega, by go_num, by rw [HF.out]; exact hown1, ((HB.out.other _).other _).grown hgr (fun j hj => by have := (HO.out.lt j hj).1; omega)⟩
        case measure => simp [intOf]; omega
    · obtain rfl : k = l.length := by omega
      rw [List.take_length] at hO
      have hkl : (keepP p l).length ≤ 20 := Nat.le_trans (List.length_filter_le _ _) hl
      obtain ⟨a5, c5, rfl, hc5, hA5⟩ := owns_atP hO
      have HA5 := hide hA5
      clear hO hA5 HO hbx
      go_wp2_with (go_at_call 121; refine (mergedP_any (keepP p l) [p] a5 (some ⟨wr.heap.size, 0, none⟩) c5 1 (wr.alloc (.cells #[.string p.key, .string p.value] 118)) (by omega) (by simp) hc5 (by simp) (HA5.out.stays ((Below.refl _ _).alloc (Nat.le_refl _) _)) (one_prop wr p)).mono ?_; rintro e w4 ⟨v4, rfl, ho4, hb4⟩)
      go_ret
      exact ⟨v4, rfl, owns_lower ho4.1 (by simp; omega), ((HB.out.other _).step hb4).below⟩
end Go.Proofs.Ytcpgkalafkhlgae.OpR
namespace Go.Proofs.Ytcpgkalafkhlgae.OpR
set_option linter.unusedVariables false

/-- Keys in order. -/
def RiseK (m : List (Int × NodG)) : Prop := m.Pairwise fun a b => a.1 < b.1
theorem riseK_of {l : List NodG} (h : RisesN l) : RiseK (kvOf l) := by
  unfold RiseK kvOf
  rw [List.pairwise_map]
  exact rises_pw h
theorem kvAt_none {m : List (Int × NodG)} {x : Int} (h : kvAt m x = none) : ∀ p ∈ m, p.1 ≠ x := by
  unfold kvAt at h
  rw [Option.map_eq_none_iff, List.find?_eq_none] at h
  intro p hp
  simpa using h p hp
theorem kvDel_self {m : List (Int × NodG)} {x : Int} (h : ∀ p ∈ m, p.1 ≠ x) : kvDel m x = m := List.filter_eq_self.2 fun p hp => by simpa using h p hp
theorem kvDel_ins {x : Int} {n : NodG} : ∀ {m : List (Int × NodG)}, (∀ p ∈ m, p.1 ≠ x) → kvDel (kvIns x n m) x = m
  | [], _ => by simp [kvIns, kvDel]
  | q :: r, h => by
    unfold kvIns
    split
    · have : kvDel ((x, n) :: q :: r) x = kvDel (q :: r) x := by simp [kvDel]
      rw [this]; exact kvDel_self h
    · have hq := h q (by simp)
      have : kvDel (q :: kvIns x n r) x = q :: kvDel (kvIns x n r) x := by simp [kvDel, hq]
      rw [this, kvDel_ins (fun p hp => h p (by simp [hp]))]
theorem kvDel_no (m : List (Int × NodG)) (x : Int) : ∀ p ∈ kvDel m x, p.1 ≠ x := fun p hp => by
  have := (List.mem_filter.1 hp).2
  simpa using this
theorem kvDel_put (m : List (Int × NodG)) (x : Int) (n : NodG) : kvDel (kvPut m x n) x = kvDel m x := kvDel_ins (kvDel_no m x)
theorem back_none {m : List (Int × NodG)} {x : Int} {n : NodG} (h : kvAt m x = none) : kvDel (kvPut m x n) x = m := by
  rw [kvDel_put, kvDel_self (kvAt_none h)]
/-- A node that is there, put there. -/
theorem ins_del {x : Int} {n : NodG} : ∀ {m : List (Int × NodG)}, RiseK m → kvAt m x = some n → kvIns x n (kvDel m x) = m
  | [], _, h => by simp [kvAt] at h
  | q :: r, hr, h => by
    have hr' := List.pairwise_cons.1 hr
    by_cases hq : q.1 = x
    · have hn : q.2 = n := by simpa [kvAt, hq] using h
      have hd : kvDel (q :: r) x = r := by
        have : kvDel (q :: r) x = kvDel r x := by simp [kvDel, hq]
        rw [this, kvDel_self fun p hp => by have := hr'.1 p hp; omega]
      rw [hd]
      have hqe : q = (x, n) := Prod.ext hq hn
      cases r with
      | nil => rw [hqe]; rfl
      | cons y s =>
        have := hr'.1 y (by simp)
        rw [kvIns, if_pos (by omega), hqe]
    · have h' : kvAt r x = some n := by simpa [kvAt, hq] using h
      have hd : kvDel (q :: r) x = q :: kvDel r x := by simp [kvDel, hq]
      have hlt : q.1 < x := by
        unfold kvAt at h'
        obtain ⟨p, hp, _⟩ := Option.map_eq_some_iff.1 h'
        have h1 := hr'.1 p (List.mem_of_find?_eq_some hp)
        have h2 : p.1 = x := by simpa using List.find?_some hp
        omega
      rw [hd, kvIns, if_neg (by omega), ins_del hr'.2 h']
theorem back_some {m : List (Int × NodG)} {x : Int} {n n' : NodG} (hr : RiseK m) (h : kvAt m x = some n) : kvPut (kvPut m x n') x n = m := by
  rw [kvPut, kvDel_put, ins_del hr h]
theorem kvAt_ins_other {x y : Int} {n : NodG} (hne : y ≠ x) : ∀ (m : List (Int × NodG)), kvAt (kvIns x n m) y = kvAt m y
  | [] => by simp [kvIns, kvAt, Ne.symm hne]
  | q :: r => by
    unfold kvIns
    split
    · simp [kvAt, Ne.symm hne]
    · have ih := kvAt_ins_other (n := n) hne r
      unfold kvAt at *
      rw [List.find?_cons, List.find?_cons]
      cases decide (q.1 = y)
      · exact ih
      · rfl
theorem kvAt_ins_same {x : Int} {n : NodG} : ∀ {m : List (Int × NodG)}, (∀ p ∈ m, p.1 ≠ x) → kvAt (kvIns x n m) x = some n
  | [], _ => by simp [kvIns, kvAt]
  | q :: r, h => by
    unfold kvIns
    split
    · simp [kvAt]
    · have ih := kvAt_ins_same (n := n) (m := r) (fun p hp => h p (by simp [hp]))
      have hq := h q (by simp)
      unfold kvAt at *
      rw [List.find?_cons]
      simp only [hq, decide_false]
      exact ih
theorem kvAt_del {m : List (Int × NodG)} {x y : Int} (hne : y ≠ x) : kvAt (kvDel m x) y = kvAt m y := by
  unfold kvAt kvDel
  rw [List.find?_filter]
  congr 1
  congr 1
  funext p
  by_cases h : p.1 = y
  · simp [h, hne]
  · simp [h]
theorem kvAt_put_same (m : List (Int × NodG)) (x : Int) (n : NodG) : kvAt (kvPut m x n) x = some n := kvAt_ins_same (kvDel_no m x)
theorem kvAt_put_other (m : List (Int × NodG)) {x y : Int} (n : NodG) (hne : y ≠ x) : kvAt (kvPut m x n) y = kvAt m y := by
  unfold kvPut
  rw [kvAt_ins_other hne, kvAt_del hne]
theorem kvIns_len (x : Int) (n : NodG) : ∀ (m : List (Int × NodG)), (kvIns x n m).length = m.length + 1
  | [] => rfl
  | q :: r => by
    unfold kvIns
    split
    · rfl
    · rw [List.length_cons, kvIns_len x n r, List.length_cons]
theorem kvPut_len_none {m : List (Int × NodG)} {x : Int} {n : NodG} (h : kvAt m x = none) : (kvPut m x n).length = m.length + 1 := by
  unfold kvPut
  rw [kvIns_len, kvDel_self (kvAt_none h)]
theorem kvPut_len_some {m : List (Int × NodG)} {x : Int} {n n' : NodG} (hr : RiseK m) (h : kvAt m x = some n) : (kvPut m x n').length = m.length := by
  have := congrArg List.length (ins_del hr h)
  rw [kvIns_len] at this
  unfold kvPut
  rw [kvIns_len]
  exact this
theorem kvIns_mem {x : Int} {n : NodG} {p : Int × NodG} : ∀ {m : List (Int × NodG)}, p ∈ kvIns x n m → p = (x, n) ∨ p ∈ m
  | [], h => by simp [kvIns] at h; exact .inl h
  | q :: r, h => by
    unfold kvIns at h
    split at h
    · rcases List.mem_cons.1 h with h | h
      · exact .inl h
      · exact .inr h
    · rcases List.mem_cons.1 h with h | h
      · exact .inr (by simp [h])
      · exact (kvIns_mem h).imp id (fun h => by simp [h])
theorem kvPut_mem {m : List (Int × NodG)} {x : Int} {n : NodG} {p : Int × NodG} (h : p ∈ kvPut m x n) : p = (x, n) ∨ p ∈ m :=
  (kvIns_mem h).imp id (fun h => (List.mem_filter.1 h).1)
theorem kvIns_rise {x : Int} {n : NodG} : ∀ {m : List (Int × NodG)}, RiseK m → (∀ p ∈ m, p.1 ≠ x) → RiseK (kvIns x n m)
  | [], _, _ => by simp [kvIns, RiseK]
  | q :: r, hr, h => by
    have hr' := List.pairwise_cons.1 hr
    have hq := h q (by simp)
    unfold kvIns
    split
    · rename_i hx
      exact List.pairwise_cons.2 ⟨fun p hp => by
        rcases List.mem_cons.1 hp with rfl | hp
        · exact hx
        · have := hr'.1 p hp; omega, hr⟩
    · refine List.pairwise_cons.2 ⟨fun p hp => ?_, kvIns_rise hr'.2 (fun p hp => h p (by simp [hp]))⟩
      rcases kvIns_mem hp with rfl | hp
      · show q.1 < x; omega
      · exact hr'.1 p hp
theorem kvPut_rise {m : List (Int × NodG)} (hr : RiseK m) (x : Int) (n : NodG) : RiseK (kvPut m x n) :=
  kvIns_rise (List.Pairwise.sublist (List.filter_sublist) hr) (kvDel_no m x)
/-- A node put among nodes: in its place, in the place of one of its number. -/
def putL (l : List NodG) (n : NodG) : List NodG := (kvPut (kvOf l) n.id n).map Prod.snd
theorem kvOf_put (l : List NodG) (n : NodG) : kvPut (kvOf l) n.id n = kvOf (putL l n) := by
  have hk : ∀ p ∈ kvPut (kvOf l) n.id n, p = (p.2.id, p.2) := fun p hp => by
    rcases kvPut_mem hp with rfl | hp
    · rfl
    · obtain ⟨m, _, rfl⟩ := List.mem_map.1 hp
      rfl
  unfold putL kvOf
  rw [List.map_map]
  conv => lhs; rw [← List.map_id (kvPut (List.map (fun n => (n.id, n)) l) n.id n)]
  exact List.map_congr_left fun p hp => hk p hp
theorem putL_rise {l : List NodG} (hr : RisesN l) (n : NodG) : RisesN (putL l n) := by
  have h := kvPut_rise (riseK_of hr) n.id n
  rw [kvOf_put] at h
  unfold RiseK kvOf at h
  rw [List.pairwise_map] at h
  exact fun i hi => List.pairwise_iff_getElem.1 h i (i + 1) (by omega) hi (by omega)
theorem putL_mem {l : List NodG} {n x : NodG} (h : x ∈ putL l n) : x = n ∨ x ∈ l := by
  obtain ⟨p, hp, rfl⟩ := List.mem_map.1 h
  rcases kvPut_mem hp with rfl | hp
  · exact .inl rfl
  · obtain ⟨m, hm, rfl⟩ := List.mem_map.1 hp
    exact .inr hm
theorem putL_len (l : List NodG) (n : NodG) : (putL l n).length = (kvPut (kvOf l) n.id n).length := by simp [putL]
theorem nodOf_put_same (l : List NodG) (n : NodG) : nodOf (putL l n) n.id = some n := by rw [← kvAt_of, ← kvOf_put, kvAt_put_same]
theorem nodOf_put_other (l : List NodG) (n : NodG) {y : Int} (h : y ≠ n.id) : nodOf (putL l n) y = nodOf l y := by rw [← kvAt_of, ← kvOf_put, kvAt_put_other _ _ h, kvAt_of]
theorem putL_len_none {l : List NodG} {n : NodG} (h : nodOf l n.id = none) : (putL l n).length = l.length + 1 := by
  rw [putL_len, kvPut_len_none (by rw [kvAt_of]; exact h), kvOf_len]
theorem putL_len_some {l : List NodG} (hr : RisesN l) {n m : NodG} (h : nodOf l n.id = some m) : (putL l n).length = l.length := by
  rw [putL_len, kvPut_len_some (riseK_of hr) (n := m) (by rw [kvAt_of]; exact h), kvOf_len]

/-- From a node that is put below p: is 0 or 1 come to? -/
theorem put_ends {l : List NodG} (ht : TreeR l) {n : NodG} (hn : 2 ≤ n.id) : endsF (par (putL l n)) ((putL l n).length + 1) n.id = (placeB l n.parent && (!decide (n.parent = n.id) && !abF (par l) n.id (l.length + 1) n.parent)) := by
  obtain ⟨p0, p1⟩ := tree_par ht
  have hx0 : n.id ≠ 0 := by omega
  have hx1 : n.id ≠ 1 := by omega
  have hgx : par (putL l n) n.id = some n.parent := by unfold par; rw [nodOf_put_same]; rfl
  have hfg : ∀ z, z ≠ n.id → par l z = par (putL l n) z := fun z hz => by unfold par; rw [nodOf_put_other l n hz]
  by_cases hpx : n.parent = n.id
  · rw [moved_loop hx0 hx1 p0 p1 hfg hgx (k := 1) (by simp [abF, hpx])]
    simp [hpx]
  · have hdom : ∀ z y, par (putL l n) z = some y → z ∈ (putL l n).map NodG.id := fun z y hz => by
      unfold par at hz
      obtain ⟨m, hm, _⟩ := Option.map_eq_some_iff.1 hz
      obtain ⟨h1, h2⟩ := nodOf_some hm
      exact List.mem_map.2 ⟨m, h1, h2⟩
    have hg0 : par (putL l n) 0 = none := by rw [← hfg 0 (Ne.symm hx0)]; exact p0
    have hg1 : par (putL l n) 1 = none := by rw [← hfg 1 (Ne.symm hx1)]; exact p1
    have short : ∀ {k x}, endsF (par (putL l n)) k x = true → endsF (par (putL l n)) ((putL l n).length + 1) x = true := fun h =>
      ends_short (putL l n).length (par (putL l n)) ((putL l n).map NodG.id) (by simp) hdom hg0 hg1 h
    by_cases hlow : n.parent = 0 ∨ n.parent = 1
    · have hab : abF (par l) n.id (l.length + 1) n.parent = false := by
        have hn' : par l n.parent = none := by rcases hlow with e | e <;> rw [e] <;> assumption
        simp [abF, hpx, hn']
      rw [hab, short (k := 2) (by rw [ends_step hx0 hx1 hgx]; exact ends_low hlow)]
      rcases hlow with e | e <;> simp [placeB, e, Ne.symm hx0, Ne.symm hx1]
    · have hq0 : n.parent ≠ 0 := fun e => hlow (.inl e)
      have hq1 : n.parent ≠ 1 := fun e => hlow (.inr e)
      cases hp : nodOf l n.parent with
      | none =>
        have hgp : par (putL l n) n.parent = none := by rw [← hfg _ hpx]; unfold par; rw [hp]; rfl
        rw [moved_none hx0 hx1 hgx hq0 hq1 hgp]
        simp [placeB, hq0, hq1, hp]
      | some q =>
        have hen := tree_ends ht hp
        cases hab : abF (par l) n.id (l.length + 1) n.parent with
        | true =>
          rw [moved_loop hx0 hx1 p0 p1 hfg hgx hab]
          simp
        | false =>
          rw [short (moved_ends hx0 hx1 p0 p1 hfg hgx hen hab)]
          simp [placeB, hp, hpx]
/-- A node whose parent stays: the ways up stay. -/
theorem put_same {l : List NodG} {n m : NodG} (h : nodOf l n.id = some m) (hp : n.parent = m.parent) : par (putL l n) = par l := by
  funext z
  by_cases hz : z = n.id
  · subst hz
    unfold par
    rw [nodOf_put_same, h, Option.map_some, Option.map_some, hp]
  · unfold par
    rw [nodOf_put_other l n hz]
end Go.Proofs.Ytcpgkalafkhlgae.OpR
