/- Proves what impl's (nodeMap).do does to a map of nodes. Proves what impl's (nodeMap).do does to a map of nodes where a prop is set. A deed done to a tree: what becomes of its nodes, and that the tree stays right. Plain mathematics. Proves what impl's (nodeMap).do does to the nodes of a right tree, and what impl.TreeDo and impl.TreeOf answer. Proves what impl.TreeDo answers. Plain mathematics of putting ops to a log. -/
import Derived.Test.YtcpgkalafkhlgaeDof
import Derived.BigRegion
import Derived.RegionTactic
import Derived.ChangeAlike
namespace Go.Proofs.Ytcpgkalafkhlgae.OpR
open Go.ChangeShapes Go.WideShapes Go.ChangeAt Go.RowKit
set_option linter.unusedVariables false

/-- What stands at a number, and whether there is one. -/
def Was (m : List (Int × NodG)) (x : Int) (n : NodG) (there : Bool) : Prop := (kvAt m x = some n ∧ there = true) ∨ (kvAt m x = none ∧ n = NodG.zero ∧ there = false)
theorem wpList_look_any (w : World) {ops : Array Oper} {rest : List Oper} {o : Oper} {a : Act} {Q : Exit → Act → World → Prop} (hg : o.guard = none) (m x : Operand) (hop : o.op = Op.lookup 87 m x true) (B : Nat) (l : List (Int × NodG)) (hm : a.eval m = .map (some B)) (hM : MapAt w B l)
    (key : Int) (hk : -9223372036854775808 ≤ key ∧ key ≤ 9223372036854775807) (hx : a.eval x = .int .i64 key) (n : NodG) (there : Bool) (hn : Was l key n there)
    (hK : wpList Try.prog ops Q rest (a.put o.dst (.tuple #[.agg #[.int .i64 n.id, .int .i64 n.parent, .string n.name, .slice n.pao n.props.length n.pcap], .bool there])) w) :
    wpList Try.prog ops Q (o :: rest) a w := by
  rcases hn with ⟨h1, rfl⟩ | ⟨h1, rfl, rfl⟩
  · exact wpList_look_some w hg m x hop B l hm hM key hk hx n h1 hK
  · exact wpList_look_none w hg m x hop B l hm hM key hk hx h1 hK
def backM (m : List (Int × NodG)) (x : Int) (n : NodG) (there : Bool) : List (Int × NodG) := if there then kvPut m x n else kvDel m x
theorem back_is {m : List (Int × NodG)} {x : Int} {n n' : NodG} {there : Bool} (hr : RiseK m) (h : Was m x n there) : backM (kvPut m x n') x n there = m := by
  rcases h with ⟨h1, rfl⟩ | ⟨h1, _, rfl⟩
  · exact back_some hr h1
  · exact back_none h1
theorem grown_below {w w' : World} (B : Nat) (h : Below w.heap.size w w') : w.grownBy w' (some B) := ⟨h.os, h.tape, h.output, h.size, fun k hk _ => h.block k hk⟩

set_option maxRecDepth 100000 in
set_option maxHeartbeats 400000 in
theorem takeBack_any (m : List (Int × NodG)) (B : Nat) (x : Int) (n : NodG) (there : Bool) (w : World) (hx : In64 x) (hl : m.length < maxLen) (hM : MapAt w B m) :
    Calls Try.prog 101 #[.map (some B), .int .i64 x, n.agg, .bool there] w fun e w' => (∃ v, e = .returned v) ∧ MapAt w' B (backM m x n there) ∧ w.grownBy w' (some B) := by
  have HM := hide (hM.stays ((Below.refl _ _).alloc (Nat.le_refl _) (.cells #[.int .i64 n.id, .int .i64 n.parent, .string n.name, .slice n.pao n.props.length n.pcap] 79)))
  have HG := hide (grown_below B ((Below.refl w.heap.size w).alloc (Nat.le_refl _) (.cells #[.int .i64 n.id, .int .i64 n.parent, .string n.name, .slice n.pao n.props.length n.pcap] 79)))
  have HX := hide hx
  have HL := hide hl
  clear hM hx hl
  unfold NodG.agg
  cases there
  · go_enter Try.func101, Try.ntmps101
    go_wp2_with (first | (at_delete; refine wpList_del_node _ rfl _ _ rfl B m rfl HM.out x HX.out rfl ?_; intro w1 hM1 ht1) | go_in)
    go_end0
    exact ⟨⟨_, rfl⟩, hM1, HG.out.trans ht1.grown⟩
  · go_enter Try.func101, Try.ntmps101
    go_wp2_with (first | (at_mapUpdate; refine wpList_put_node _ rfl _ _ _ rfl B m rfl HM.out HL.out x HX.out rfl n rfl ?_; intro w1 hM1 ht1) | go_in)
    go_end0
    exact ⟨⟨_, rfl⟩, hM1, HG.out.trans ht1.grown⟩

/-- The variables of do: the op, the node as it was, the node as it is to be. -/
structure DoV (w c : World) (B : Nat) (o : OpV) (n k : NodG) (kd : Int) : Prop where
  grown : w.grownBy c (some B)
  op : c.heap[w.heap.size]? = some (.cells #[.int .i64 o.time, .int .i64 o.repl, .int .i64 kd, .int .i64 o.node, .int .i64 o.parent, .string o.name, .string o.value] 51 (0, 0))
  was : c.heap[w.heap.size + 1]? = some (.cells #[.int .i64 n.id, .int .i64 n.parent, .string n.name, .slice n.pao n.props.length n.pcap] 79 (0, 0))
  now : c.heap[w.heap.size + 1 + 1]? = some (.cells #[.int .i64 k.id, .int .i64 k.parent, .string k.name, .slice k.pao k.props.length k.pcap] 79 (0, 0))
theorem DoV.lt {w c : World} {B : Nat} {o : OpV} {n k : NodG} {kd : Int} (h : DoV w c B o n k kd) : w.heap.size + 1 + 1 < c.heap.size := (Array.getElem?_eq_some_iff.1 h.now).1
theorem DoV.step {w c c' : World} {B : Nat} {o : OpV} {n k : NodG} {kd : Int} (h : DoV w c B o n k kd) (hb : Below c.heap.size c c') : DoV w c' B o n k kd :=
  have hl := h.lt
  ⟨h.grown.trans (grown_below B hb), (hb.block _ (by omega)).trans h.op, (hb.block _ (by omega)).trans h.was, (hb.block _ (by omega)).trans h.now⟩
theorem DoV.turn {w c c' : World} {B : Nat} {o : OpV} {n k : NodG} {kd : Int} (h : DoV w c B o n k kd) (hB : B < w.heap.size) (ht : c.grownBy c' (some B)) : DoV w c' B o n k kd :=
  have hl := h.lt
  ⟨h.grown.trans ht, (ht.block _ (by omega) (by simp; omega)).trans h.op, (ht.block _ (by omega) (by simp; omega)).trans h.was, (ht.block _ (by omega) (by simp; omega)).trans h.now⟩
theorem DoV.moved {w c : World} {B : Nat} {o : OpV} {n k : NodG} {kd : Int} (h : DoV w c B o n k kd) (x y : Int) (s : ByteArray) :
    DoV w (((c.setCell ⟨w.heap.size + 1 + 1, 0, none⟩ (.int .i64 x)).setCell ⟨w.heap.size + 1 + 1, 1, none⟩ (.int .i64 y)).setCell ⟨w.heap.size + 1 + 1, 2, none⟩ (.string s)).drew B o n ⟨x, y, s, k.props, k.pao, k.pcap⟩ kd := by
  have hs : (((c.setCell ⟨w.heap.size + 1 + 1, 0, none⟩ (.int .i64 x)).setCell ⟨w.heap.size + 1 + 1, 1, none⟩ (.int .i64 y)).setCell ⟨w.heap.size + 1 + 1, 2, none⟩ (.string s)).heap.size = c.heap.size := by simp [World.setCell]
  have ho : ∀ b, b ≠ w.heap.size + 1 + 1 → (((c.setCell ⟨w.heap.size + 1 + 1, 0, none⟩ (.int .i64 x)).setCell ⟨w.heap.size + 1 + 1, 1, none⟩ (.int .i64 y)).setCell ⟨w.heap.size + 1 + 1, 2, none⟩ (.string s)).heap[b]? = c.heap[b]? := fun b hb => by
    rw [Below.heap_setCell _ _ _ _ hb, Below.heap_setCell _ _ _ _ hb, Below.heap_setCell _ _ _ _ hb]
  refine ⟨⟨h.grown.os, h.grown.tape, h.grown.output, Nat.le_trans h.grown.size (Nat.le_of_eq hs.symm), fun b hb hne => ?_⟩, (ho _ (by omega)).trans h.op, (ho _ (by omega)).trans h.was, ?_⟩
  · exact (ho b (by omega)).trans (h.grown.block b hb hne)
  · exact set_block (set_block (set_block h.now 0 (.int .i64 x)) 1 (.int .i64 y)) 2 (.string s)
theorem cells7 {w : World} {g : Nat} {v0 v1 v2 v3 v4 v5 v6 : Value} {T : TypeId} (h : w.heap[g]? = some (.cells #[v0, v1, v2, v3, v4, v5, v6] T (0, 0))) :
    w.cell? ⟨g, 0, none⟩ = some v0 ∧ w.cell? ⟨g, 1, none⟩ = some v1 ∧ w.cell? ⟨g, 2, none⟩ = some v2 ∧ w.cell? ⟨g, 3, none⟩ = some v3 ∧ w.cell? ⟨g, 4, none⟩ = some v4 ∧ w.cell? ⟨g, 5, none⟩ = some v5 ∧ w.cell? ⟨g, 6, none⟩ = some v6 := by
  refine ⟨by simp [World.cell?, h], by simp [World.cell?, h], by simp [World.cell?, h], by simp [World.cell?, h], by simp [World.cell?, h], by simp [World.cell?, h], by simp [World.cell?, h]⟩
theorem do_vars (w : World) (B : Nat) (o : OpV) (n : NodG) (kd : Int) : DoV w (((w.alloc (.cells #[.int .i64 o.time, .int .i64 o.repl, .int .i64 kd, .int .i64 o.node, .int .i64 o.parent, .string o.name, .string o.value] 51)).alloc (.cells #[.int .i64 n.id, .int .i64 n.parent, .string n.name, .slice n.pao n.props.length n.pcap] 79)).alloc (.cells #[.int .i64 n.id, .int .i64 n.parent, .string n.name, .slice n.pao n.props.length n.pcap] 79)) B o n n kd :=
  ⟨grown_below B ((((Below.refl _ _).alloc (Nat.le_refl _) _).alloc (by simp) _).alloc (by simp; omega) _), by
    rw [Below.heap_alloc _ _ _ (by simp; omega), Below.heap_alloc _ _ _ (by simp)]; exact heap_alloc_new w _, mid3 _ _ _ _, last3 _ _ _ _⟩
/-- What do leaves. -/
def doRes (m : List (Int × NodG)) (x : Int) (k n : NodG) (there : Bool) : List (Int × NodG) := if decide ((kvPut m x k).length ≤ 150) && holdsB (kvPut m x k) k then kvPut m x k else backM (kvPut m x k) x n there
theorem put_le (m : List (Int × NodG)) (x : Int) (n : NodG) : (kvPut m x n).length ≤ m.length + 1 := by
  unfold kvPut kvDel
  rw [kvIns_len]
  have := List.length_filter_le (fun p : Int × NodG => !decide (p.1 = x)) m
  omega
theorem do_map {w : World} {B : Nat} {m : List (Int × NodG)} (h : MapAt w B m) (o : OpV) (n : NodG) (kd : Int) : MapAt (((w.alloc (.cells #[.int .i64 o.time, .int .i64 o.repl, .int .i64 kd, .int .i64 o.node, .int .i64 o.parent, .string o.name, .string o.value] 51)).alloc (.cells #[.int .i64 n.id, .int .i64 n.parent, .string n.name, .slice n.pao n.props.length n.pcap] 79)).alloc (.cells #[.int .i64 n.id, .int .i64 n.parent, .string n.name, .slice n.pao n.props.length n.pcap] 79)) B m :=
  h.stays ((((Below.refl _ _).alloc (Nat.le_refl _) _).alloc (by simp) _).alloc (by simp; omega) _)
theorem MapAt.moved {c : World} {B : Nat} {m : List (Int × NodG)} (h : MapAt c B m) (g : Nat) (hg : B ≠ g) (x y z : Value) : MapAt (((c.setCell ⟨g, 0, none⟩ x).setCell ⟨g, 1, none⟩ y).setCell ⟨g, 2, none⟩ z).drew B m := by
  refine h.block ?_
  show (((c.setCell ⟨g, 0, none⟩ x).setCell ⟨g, 1, none⟩ y).setCell ⟨g, 2, none⟩ z).heap[B]? = _
  rw [Below.heap_setCell _ _ _ _ hg, Below.heap_setCell _ _ _ _ hg, Below.heap_setCell _ _ _ _ hg]
set_option maxRecDepth 100000 in
set_option maxHeartbeats 1000000 in
theorem doMove_any (m : List (Int × NodG)) (B : Nat) (o : OpV) (n : NodG) (there : Bool) (w : World) (hk : o.kind = 1) (hx : In64 o.node) (hW : Was m o.node n there) (hl : m.length ≤ 150) (hM : MapAt w B m)
    (hho : ∀ W, MapAt W B (kvPut m o.node ⟨o.node, o.parent, o.name, n.props, n.pao, n.pcap⟩) → w.grownBy W (some B) → Calls Try.prog 60 #[.map (some B), .agg #[.int .i64 o.node, .int .i64 o.parent, .string o.name, .slice n.pao n.props.length n.pcap]] W fun e w' => e = .returned (.bool (holdsB (kvPut m o.node ⟨o.node, o.parent, o.name, n.props, n.pao, n.pcap⟩) ⟨o.node, o.parent, o.name, n.props, n.pao, n.pcap⟩)) ∧ Below W.heap.size W w') :
    Calls Try.prog 67 #[.map (some B), o.agg] w fun e w' => (∃ v, e = .returned v) ∧ MapAt w' B (doRes m o.node ⟨o.node, o.parent, o.name, n.props, n.pao, n.pcap⟩ n there) ∧ w.grownBy w' (some B) := by
  have HM := hide hM
  have HX := hide hx
  have HW := hide hW
  have HH := hide hho
  have hBw := hM.lt
  have HL := hide (put_le m o.node ⟨o.node, o.parent, o.name, n.props, n.pao, n.pcap⟩)
  clear hx hW hho
  unfold OpV.agg
  by_cases hlen : (kvPut m o.node ⟨o.node, o.parent, o.name, n.props, n.pao, n.pcap⟩).length ≤ 150
  · have hlen' : decide ((150 : Int) < ((kvPut m o.node ⟨o.node, o.parent, o.name, n.props, n.pao, n.pcap⟩).length : Int)) = false := by simp; omega
    cases hok : holdsB (kvPut m o.node ⟨o.node, o.parent, o.name, n.props, n.pao, n.pcap⟩) ⟨o.node, o.parent, o.name, n.props, n.pao, n.pcap⟩
    · have HIF : Hid (doRes m o.node ⟨o.node, o.parent, o.name, n.props, n.pao, n.pcap⟩ n there = backM (kvPut m o.node ⟨o.node, o.parent, o.name, n.props, n.pao, n.pcap⟩) o.node n there) := ⟨by simp [doRes, hok]⟩
      go_enter Try.func67, Try.ntmps67
      go_wp2_with (first | (at_lookup; refine wpList_look_any _ rfl _ _ rfl B m rfl (HM.out.stays ((Below.refl _ _).alloc (Nat.le_refl _) _)) o.node HX.out rfl n there HW.out ?_) | go_in)
      obtain ⟨X, hX⟩ : ∃ X, ((w.alloc (.cells #[.int .i64 o.time, .int .i64 o.repl, .int .i64 1, .int .i64 o.node, .int .i64 o.parent, .string o.name, .string o.value] 51)).alloc (.cells #[.int .i64 n.id, .int .i64 n.parent, .string n.name, .slice n.pao n.props.length n.pcap] 79)).alloc (.cells #[.int .i64 n.id, .int .i64 n.parent, .string n.name, .slice n.pao n.props.length n.pcap] 79) = X := ⟨_, rfl⟩
      have hV := do_vars w B o n 1
      have hMX := do_map hM o n 1
      rw [hX] at hV hMX ⊢
      have HMX := hide hMX
      clear hX hMX
      have HV := hide hV
      obtain ⟨o0, o1, o2, o3, o4, o5, o6⟩ := cells7 hV.op
      obtain ⟨n0, n1, n2, n3, f0, f1, f2, f3⟩ := cells4 hV.now
      clear hV
      go_region
      clear o0 o1 o2 o3 o4 o5 o6 n0 n1 n2 n3 f0 f1 f2 f3
      have hV := HV.out.moved o.node o.parent o.name
      have hMY := HMX.out.moved (w.heap.size + 1 + 1) (by omega) (.int .i64 o.node) (.int .i64 o.parent) (.string o.name)
      obtain ⟨Y, hY⟩ : ∃ Y, (((X.setCell ⟨w.heap.size + 1 + 1, 0, none⟩ (.int .i64 o.node)).setCell ⟨w.heap.size + 1 + 1, 1, none⟩ (.int .i64 o.parent)).setCell ⟨w.heap.size + 1 + 1, 2, none⟩ (.string o.name)).drew = Y := ⟨_, rfl⟩
      rw [hY] at hV hMY ⊢
      have HVY := hide hV
      have HMY := hide hMY
      obtain ⟨o0, o1, o2, o3, o4, o5, o6⟩ := cells7 hV.op
      obtain ⟨n0, n1, n2, n3, _, _, _, _⟩ := cells4 hV.now
      clear hY hV hMY HV HMX
      go_wp2_with (first | (at_mapUpdate; refine wpList_put_node _ rfl _ _ _ rfl B m rfl HMY.out (by unfold maxLen; omega) o.node HX.out rfl ⟨o.node, o.parent, o.name, n.props, n.pao, n.pcap⟩ rfl ?_; intro Z hMZ htZ; have hVZ := HVY.out.turn hBw htZ.grown; have HVZ := hide hVZ; have HMZ := hide hMZ; clear o0 o1 o2 o3 o4 o5 o6 n0 n1 n2 n3 htZ; obtain ⟨o0, o1, o2, o3, o4, o5, o6⟩ := cells7 hVZ.op; obtain ⟨n0, n1, n2, n3, _, _, _, _⟩ := cells4 hVZ.now; obtain ⟨s0, s1, s2, s3, _, _, _, _⟩ := cells4 hVZ.was; clear hVZ hMZ) | (at_len; refine wpList_len_nodes _ rfl _ rfl B _ rfl HMZ.out ?_) | (go_at_call 60; refine (HH.out Z HMZ.out HVZ.out.grown).mono ?_; rintro e w5 ⟨rfl, hb5⟩; rw [hok]; have hV5 := HVZ.out.step hb5; have HV5 := hide hV5; have HM5 := hide (HMZ.out.stays hb5); clear o0 o1 o2 o3 o4 o5 o6 n0 n1 n2 n3 s0 s1 s2 s3; obtain ⟨o0, o1, o2, o3, o4, o5, o6⟩ := cells7 hV5.op; obtain ⟨s0, s1, s2, s3, _, _, _, _⟩ := cells4 hV5.was; clear hV5 hb5) | (go_at_call 101; refine (takeBack_any _ B o.node n there _ HX.out (by have := HL.out; unfold maxLen; omega) HM5.out).mono ?_; rintro e w6 ⟨⟨v6, rfl⟩, hM6, hg6⟩) | go_in)
      go_end0
      exact ⟨⟨_, rfl⟩, by rw [HIF.out]; exact hM6, HV5.out.grown.trans hg6⟩
    · have HIF : Hid (doRes m o.node ⟨o.node, o.parent, o.name, n.props, n.pao, n.pcap⟩ n there = kvPut m o.node ⟨o.node, o.parent, o.name, n.props, n.pao, n.pcap⟩) := ⟨by simp [doRes, hlen, hok]⟩
      go_enter Try.func67, Try.ntmps67
      go_wp2_with (first | (at_lookup; refine wpList_look_any _ rfl _ _ rfl B m rfl (HM.out.stays ((Below.refl _ _).alloc (Nat.le_refl _) _)) o.node HX.out rfl n there HW.out ?_) | go_in)
      obtain ⟨X, hX⟩ : ∃ X, ((w.alloc (.cells #[.int .i64 o.time, .int .i64 o.repl, .int .i64 1, .int .i64 o.node, .int .i64 o.parent, .string o.name, .string o.value] 51)).alloc (.cells #[.int .i64 n.id, .int .i64 n.parent, .string n.name, .slice n.pao n.props.length n.pcap] 79)).alloc (.cells #[.int .i64 n.id, .int .i64 n.parent, .string n.name, .slice n.pao n.props.length n.pcap] 79) = X := ⟨_, rfl⟩
      have hV := do_vars w B o n 1
      have hMX := do_map hM o n 1
      rw [hX] at hV hMX ⊢
      have HMX := hide hMX
      clear hX hMX
      have HV := hide hV
      obtain ⟨o0, o1, o2, o3, o4, o5, o6⟩ := cells7 hV.op
      obtain ⟨n0, n1, n2, n3, f0, f1, f2, f3⟩ := cells4 hV.now
      clear hV
      go_region
      clear o0 o1 o2 o3 o4 o5 o6 n0 n1 n2 n3 f0 f1 f2 f3
      have hV := HV.out.moved o.node o.parent o.name
      have hMY := HMX.out.moved (w.heap.size + 1 + 1) (by omega) (.int .i64 o.node) (.int .i64 o.parent) (.string o.name)
      obtain ⟨Y, hY⟩ : ∃ Y, (((X.setCell ⟨w.heap.size + 1 + 1, 0, none⟩ (.int .i64 o.node)).setCell ⟨w.heap.size + 1 + 1, 1, none⟩ (.int .i64 o.parent)).setCell ⟨w.heap.size + 1 + 1, 2, none⟩ (.string o.name)).drew = Y := ⟨_, rfl⟩
      rw [hY] at hV hMY ⊢
      have HVY := hide hV
      have HMY := hide hMY
      obtain ⟨o0, o1, o2, o3, o4, o5, o6⟩ := cells7 hV.op
      obtain ⟨n0, n1, n2, n3, _, _, _, _⟩ := cells4 hV.now
      clear hY hV hMY HV HMX
      go_wp2_with (first | (at_mapUpdate; refine wpList_put_node _ rfl _ _ _ rfl B m rfl HMY.out (by unfold maxLen; omega) o.node HX.out rfl ⟨o.node, o.parent, o.name, n.props, n.pao, n.pcap⟩ rfl ?_; intro Z hMZ htZ; have hVZ := HVY.out.turn hBw htZ.grown; have HVZ := hide hVZ; have HMZ := hide hMZ; clear o0 o1 o2 o3 o4 o5 o6 n0 n1 n2 n3 htZ; obtain ⟨o0, o1, o2, o3, o4, o5, o6⟩ := cells7 hVZ.op; obtain ⟨n0, n1, n2, n3, _, _, _, _⟩ := cells4 hVZ.now; obtain ⟨s0, s1, s2, s3, _, _, _, _⟩ := cells4 hVZ.was; clear hVZ hMZ) | (at_len; refine wpList_len_nodes _ rfl _ rfl B _ rfl HMZ.out ?_) | (go_at_call 60; refine (HH.out Z HMZ.out HVZ.out.grown).mono ?_; rintro e w5 ⟨rfl, hb5⟩; rw [hok]; have hV5 := HVZ.out.step hb5; have HV5 := hide hV5; have HM5 := hide (HMZ.out.stays hb5); clear o0 o1 o2 o3 o4 o5 o6 n0 n1 n2 n3 s0 s1 s2 s3; obtain ⟨o0, o1, o2, o3, o4, o5, o6⟩ := cells7 hV5.op; obtain ⟨s0, s1, s2, s3, _, _, _, _⟩ := cells4 hV5.was; clear hV5 hb5) | go_in)
      go_end0
      exact ⟨⟨_, rfl⟩, by rw [HIF.out]; exact HM5.out, HV5.out.grown⟩
  · have hlen' : (150 : Int) < ((kvPut m o.node ⟨o.node, o.parent, o.name, n.props, n.pao, n.pcap⟩).length : Int) := by omega
    have HIF : Hid ((doRes m o.node ⟨o.node, o.parent, o.name, n.props, n.pao, n.pcap⟩ n there) = backM (kvPut m o.node ⟨o.node, o.parent, o.name, n.props, n.pao, n.pcap⟩) o.node n there) := ⟨by simp [doRes, hlen]⟩
    go_enter Try.func67, Try.ntmps67
    go_wp2_with (first | (at_lookup; refine wpList_look_any _ rfl _ _ rfl B m rfl (HM.out.stays ((Below.refl _ _).alloc (Nat.le_refl _) _)) o.node HX.out rfl n there HW.out ?_) | go_in)
    obtain ⟨X, hX⟩ : ∃ X, ((w.alloc (.cells #[.int .i64 o.time, .int .i64 o.repl, .int .i64 1, .int .i64 o.node, .int .i64 o.parent, .string o.name, .string o.value] 51)).alloc (.cells #[.int .i64 n.id, .int .i64 n.parent, .string n.name, .slice n.pao n.props.length n.pcap] 79)).alloc (.cells #[.int .i64 n.id, .int .i64 n.parent, .string n.name, .slice n.pao n.props.length n.pcap] 79) = X := ⟨_, rfl⟩
    have hV := do_vars w B o n 1
    have hMX := do_map hM o n 1
    rw [hX] at hV hMX ⊢
    have HMX := hide hMX
    clear hX hMX
    have HV := hide hV
    obtain ⟨o0, o1, o2, o3, o4, o5, o6⟩ := cells7 hV.op
    obtain ⟨n0, n1, n2, n3, f0, f1, f2, f3⟩ := cells4 hV.now
    clear hV
    go_region
    clear o0 o1 o2 o3 o4 o5 o6 n0 n1 n2 n3 f0 f1 f2 f3
    have hV := HV.out.moved o.node o.parent o.name
    have hMY := HMX.out.moved (w.heap.size + 1 + 1) (by omega) (.int .i64 o.node) (.int .i64 o.parent) (.string o.name)
    obtain ⟨Y, hY⟩ : ∃ Y, (((X.setCell ⟨w.heap.size + 1 + 1, 0, none⟩ (.int .i64 o.node)).setCell ⟨w.heap.size + 1 + 1, 1, none⟩ (.int .i64 o.parent)).setCell ⟨w.heap.size + 1 + 1, 2, none⟩ (.string o.name)).drew = Y := ⟨_, rfl⟩
    rw [hY] at hV hMY ⊢
    have HVY := hide hV
    have HMY := hide hMY
    obtain ⟨o0, o1, o2, o3, o4, o5, o6⟩ := cells7 hV.op
    obtain ⟨n0, n1, n2, n3, _, _, _, _⟩ := cells4 hV.now
    clear hY hV hMY HV HMX
    go_wp2_with (first | (at_mapUpdate; refine wpList_put_node _ rfl _ _ _ rfl B m rfl HMY.out (by unfold maxLen; omega) o.node HX.out rfl ⟨o.node, o.parent, o.name, n.props, n.pao, n.pcap⟩ rfl ?_; intro Z hMZ htZ; have hVZ := HVY.out.turn hBw htZ.grown; have HVZ := hide hVZ; have HMZ := hide hMZ; clear o0 o1 o2 o3 o4 o5 o6 n0 n1 n2 n3 htZ; obtain ⟨o0, o1, o2, o3, o4, o5, o6⟩ := cells7 hVZ.op; obtain ⟨n0, n1, n2, n3, _, _, _, _⟩ := cells4 hVZ.now; obtain ⟨s0, s1, s2, s3, _, _, _, _⟩ := cells4 hVZ.was; clear hVZ hMZ) | (at_len; refine wpList_len_nodes _ rfl _ rfl B _ rfl HMZ.out ?_) | (go_at_call 101; refine (takeBack_any _ B o.node n there _ HX.out (by have := HL.out; unfold maxLen; omega) HMZ.out).mono ?_; rintro e w6 ⟨⟨v6, rfl⟩, hM6, hg6⟩) | go_in)
    go_end0
    exact ⟨⟨_, rfl⟩, by rw [HIF.out]; exact hM6, HVZ.out.grown.trans hg6⟩
end Go.Proofs.Ytcpgkalafkhlgae.OpR
namespace Go.Proofs.Ytcpgkalafkhlgae.OpR
open Go.ChangeShapes Go.WideShapes Go.ChangeAt Go.RowKit
set_option linter.unusedVariables false

theorem DoV.set3 {w c : World} {B : Nat} {o : OpV} {n k : NodG} {kd : Int} (h : DoV w c B o n k kd) (ps : List PropV) (ao : Option Addr) (cap : Nat) :
    DoV w (c.setCell ⟨w.heap.size + 1 + 1, 3, none⟩ (.slice ao ps.length cap)) B o n ⟨k.id, k.parent, k.name, ps, ao, cap⟩ kd := by
  have hs : (c.setCell ⟨w.heap.size + 1 + 1, 3, none⟩ (.slice ao ps.length cap)).heap.size = c.heap.size := by simp [World.setCell]
  have ho : ∀ b, b ≠ w.heap.size + 1 + 1 → (c.setCell ⟨w.heap.size + 1 + 1, 3, none⟩ (.slice ao ps.length cap)).heap[b]? = c.heap[b]? := fun b hb => Below.heap_setCell _ _ _ _ hb
  refine ⟨⟨h.grown.os, h.grown.tape, h.grown.output, Nat.le_trans h.grown.size (Nat.le_of_eq hs.symm), fun b hb hne => ?_⟩, (ho _ (by omega)).trans h.op, (ho _ (by omega)).trans h.was, ?_⟩
  · exact (ho b (by omega)).trans (h.grown.block b hb hne)
  · exact set_block h.now 3 (.slice ao ps.length cap)
theorem MapAt.set {c : World} {B : Nat} {m : List (Int × NodG)} (h : MapAt c B m) {a : Addr} (hg : B ≠ a.block) (x : Value) : MapAt (c.setCell a x) B m := h.block (Below.heap_setCell _ _ _ _ hg)
theorem PropsAt.set {w : World} {ao : Option Addr} {l : List PropV} (h : PropsAt w ao l) {a : Addr} (hne : ∀ x, ao = some x → x.block ≠ a.block) (v : Value) : PropsAt (w.setCell a v) ao l := fun j hj => by
  obtain ⟨b, off, e, hlt, ho⟩ := h j hj
  exact ⟨b, off, e, by simpa [World.setCell] using hlt, ho.block (Below.heap_setCell _ _ _ _ (hne _ e))⟩
set_option maxRecDepth 100000 in
set_option maxHeartbeats 1000000 in
theorem doSet_any (m : List (Int × NodG)) (B : Nat) (o : OpV) (n : NodG) (there : Bool) (w : World) (hk : o.kind = 2) (hx : In64 o.node) (hW : Was m o.node n there) (hl : m.length ≤ 150) (hM : MapAt w B m) (hn20 : n.props.length ≤ 20) (hP : PropsAt w n.pao n.props)
    (hho : ∀ a2 c2 W, MapAt W B (kvPut m o.node ⟨n.id, n.parent, n.name, mrgP (keepP ⟨o.name, o.value⟩ n.props) [⟨o.name, o.value⟩], a2, c2⟩) → w.grownBy W (some B) → PropsAt W a2 (mrgP (keepP ⟨o.name, o.value⟩ n.props) [⟨o.name, o.value⟩]) → Calls Try.prog 60 #[.map (some B), .agg #[.int .i64 n.id, .int .i64 n.parent, .string n.name, .slice a2 (mrgP (keepP ⟨o.name, o.value⟩ n.props) [⟨o.name, o.value⟩]).length c2]] W fun e w' => e = .returned (.bool (holdsB (kvPut m o.node ⟨n.id, n.parent, n.name, mrgP (keepP ⟨o.name, o.value⟩ n.props) [⟨o.name, o.value⟩], a2, c2⟩) ⟨n.id, n.parent, n.name, mrgP (keepP ⟨o.name, o.value⟩ n.props) [⟨o.name, o.value⟩], a2, c2⟩)) ∧ Below W.heap.size W w') :
    Calls Try.prog 67 #[.map (some B), o.agg] w fun e w' => (∃ v, e = .returned v) ∧ ∃ a2 c2, (∀ x, a2 = some x → w.heap.size + 1 + 1 < x.block) ∧ MapAt w' B (doRes m o.node ⟨n.id, n.parent, n.name, mrgP (keepP ⟨o.name, o.value⟩ n.props) [⟨o.name, o.value⟩], a2, c2⟩ n there) ∧ PropsAt w' a2 (mrgP (keepP ⟨o.name, o.value⟩ n.props) [⟨o.name, o.value⟩]) ∧ w.grownBy w' (some B) := by
  have HM := hide hM
  have HX := hide hx
  have HW := hide hW
  have HH := hide hho
  have hBw := hM.lt
  have hwp := fun W (hW : Below w.heap.size w W) => withProp_any n.props n.pao n.pcap ⟨o.name, o.value⟩ W hn20 (hP.stays hW)
  unfold PropV.agg at hwp
  have HWP := hide hwp
  clear hx hW hho hwp
  unfold OpV.agg
  have H0 := hide (do_vars w B o n 2)
  have HM0 := hide (do_map hM o n 2)
  have HB0 : Hid (Below w.heap.size w (((w.alloc (.cells #[.int .i64 o.time, .int .i64 o.repl, .int .i64 2, .int .i64 o.node, .int .i64 o.parent, .string o.name, .string o.value] 51)).alloc (.cells #[.int .i64 n.id, .int .i64 n.parent, .string n.name, .slice n.pao n.props.length n.pcap] 79)).alloc (.cells #[.int .i64 n.id, .int .i64 n.parent, .string n.name, .slice n.pao n.props.length n.pcap] 79))) := ⟨(((Below.refl _ _).alloc (Nat.le_refl _) _).alloc (by simp) _).alloc (by simp; omega) _⟩
  go_enter Try.func67, Try.ntmps67
  go_wp2_with (at_lookup; refine wpList_look_any _ rfl _ _ rfl B m rfl (HM.out.stays ((Below.refl _ _).alloc (Nat.le_refl _) _)) o.node HX.out rfl n there HW.out ?_)
  refine (HWP.out _ HB0.out).mono ?_
  rintro e w3 ⟨v3, rfl, ho3, hb3⟩
  obtain ⟨a2, c2, rfl, _, hA3⟩ := owns_atP ho3
  have hV3 := H0.out.step hb3
  have HBK : Hid (∀ x, a2 = some x → w.heap.size + 1 + 1 < x.block) := ⟨fun x hx => by
    have := (ho3.lt x.block (by rw [hx]; rfl)).1
    simp at this
    omega⟩
  have HVY := hide (hV3.set3 (mrgP (keepP ⟨o.name, o.value⟩ n.props) [⟨o.name, o.value⟩]) a2 c2)
  have HMY := hide ((HM0.out.stays hb3).set (a := ⟨w.heap.size + 1 + 1, 3, none⟩) (show B ≠ w.heap.size + 1 + 1 by omega) (.slice a2 (mrgP (keepP ⟨o.name, o.value⟩ n.props) [⟨o.name, o.value⟩]).length c2))
  have HPY := hide (hA3.set (a := ⟨w.heap.size + 1 + 1, 3, none⟩) (fun x hx => by have := HBK.out x hx; show x.block ≠ w.heap.size + 1 + 1; omega) (.slice a2 (mrgP (keepP ⟨o.name, o.value⟩ n.props) [⟨o.name, o.value⟩]).length c2))
  obtain ⟨o0, o1, o2, o3, o4, o5, o6⟩ := cells7 hV3.op
  obtain ⟨n0, n1, n2, n3, _, _, _, f3⟩ := cells4 hV3.now
  have HL := hide (put_le m o.node ⟨n.id, n.parent, n.name, mrgP (keepP ⟨o.name, o.value⟩ n.props) [⟨o.name, o.value⟩], a2, c2⟩)
  clear hV3 hA3 ho3 hb3 HWP HB0 H0 HM0 hP
  by_cases hlen : (kvPut m o.node ⟨n.id, n.parent, n.name, mrgP (keepP ⟨o.name, o.value⟩ n.props) [⟨o.name, o.value⟩], a2, c2⟩).length ≤ 150
  · have hlen' : decide ((150 : Int) < ((kvPut m o.node ⟨n.id, n.parent, n.name, mrgP (keepP ⟨o.name, o.value⟩ n.props) [⟨o.name, o.value⟩], a2, c2⟩).length : Int)) = false := by simp; omega
    cases hok : holdsB (kvPut m o.node ⟨n.id, n.parent, n.name, mrgP (keepP ⟨o.name, o.value⟩ n.props) [⟨o.name, o.value⟩], a2, c2⟩) ⟨n.id, n.parent, n.name, mrgP (keepP ⟨o.name, o.value⟩ n.props) [⟨o.name, o.value⟩], a2, c2⟩
    · have HIF : Hid (doRes m o.node ⟨n.id, n.parent, n.name, mrgP (keepP ⟨o.name, o.value⟩ n.props) [⟨o.name, o.value⟩], a2, c2⟩ n there = backM (kvPut m o.node ⟨n.id, n.parent, n.name, mrgP (keepP ⟨o.name, o.value⟩ n.props) [⟨o.name, o.value⟩], a2, c2⟩) o.node n there) := ⟨by simp [doRes, hok]⟩
      go_wp2_with (first | (at_mapUpdate; refine wpList_put_node _ rfl _ _ _ rfl B m rfl HMY.out (by unfold maxLen; omega) o.node HX.out rfl ⟨n.id, n.parent, n.name, mrgP (keepP ⟨o.name, o.value⟩ n.props) [⟨o.name, o.value⟩], a2, c2⟩ rfl ?_; intro Z hMZ htZ; have hVZ := HVY.out.turn hBw htZ.grown; have HVZ := hide hVZ; have HMZ := hide hMZ; have HPZ := hide (HPY.out.grown htZ.grown (fun x hx => by have := HBK.out x hx; simp; omega)); clear o0 o1 o2 o3 o4 o5 o6 n0 n1 n2 n3 f3 htZ; obtain ⟨o0, o1, o2, o3, o4, o5, o6⟩ := cells7 hVZ.op; obtain ⟨n0, n1, n2, n3, _, _, _, _⟩ := cells4 hVZ.now; obtain ⟨s0, s1, s2, s3, _, _, _, _⟩ := cells4 hVZ.was; clear hVZ hMZ) | (at_len; refine wpList_len_nodes _ rfl _ rfl B _ rfl HMZ.out ?_) | (go_at_call 60; refine (HH.out a2 c2 Z HMZ.out HVZ.out.grown HPZ.out).mono ?_; rintro e w5 ⟨rfl, hb5⟩; rw [hok]; have hV5 := HVZ.out.step hb5; have HV5 := hide hV5; have HM5 := hide (HMZ.out.stays hb5); have HP5 := hide (HPZ.out.stays hb5); clear o0 o1 o2 o3 o4 o5 o6 n0 n1 n2 n3 s0 s1 s2 s3; obtain ⟨o0, o1, o2, o3, o4, o5, o6⟩ := cells7 hV5.op; obtain ⟨s0, s1, s2, s3, _, _, _, _⟩ := cells4 hV5.was; clear hV5 hb5) | (go_at_call 101; refine (takeBack_any _ B o.node n there _ HX.out (by have := HL.out; unfold maxLen; omega) HM5.out).mono ?_; rintro e w6 ⟨⟨v6, rfl⟩, hM6, hg6⟩; have HP6 := hide (HP5.out.grown hg6 (fun x hx => by have := HBK.out x hx; simp; omega))) | go_in)
      go_end0
      exact ⟨⟨_, rfl⟩, a2, c2, HBK.out, by rw [HIF.out]; exact hM6, HP6.out, HV5.out.grown.trans hg6⟩
    · have HIF : Hid (doRes m o.node ⟨n.id, n.parent, n.name, mrgP (keepP ⟨o.name, o.value⟩ n.props) [⟨o.name, o.value⟩], a2, c2⟩ n there = kvPut m o.node ⟨n.id, n.parent, n.name, mrgP (keepP ⟨o.name, o.value⟩ n.props) [⟨o.name, o.value⟩], a2, c2⟩) := ⟨by simp [doRes, hlen, hok]⟩
      go_wp2_with (first | (at_mapUpdate; refine wpList_put_node _ rfl _ _ _ rfl B m rfl HMY.out (by unfold maxLen; omega) o.node HX.out rfl ⟨n.id, n.parent, n.name, mrgP (keepP ⟨o.name, o.value⟩ n.props) [⟨o.name, o.value⟩], a2, c2⟩ rfl ?_; intro Z hMZ htZ; have hVZ := HVY.out.turn hBw htZ.grown; have HVZ := hide hVZ; have HMZ := hide hMZ; have HPZ := hide (HPY.out.grown htZ.grown (fun x hx => by have := HBK.out x hx; simp; omega)); clear o0 o1 o2 o3 o4 o5 o6 n0 n1 n2 n3 f3 htZ; obtain ⟨o0, o1, o2, o3, o4, o5, o6⟩ := cells7 hVZ.op; obtain ⟨n0, n1, n2, n3, _, _, _, _⟩ := cells4 hVZ.now; obtain ⟨s0, s1, s2, s3, _, _, _, _⟩ := cells4 hVZ.was; clear hVZ hMZ) | (at_len; refine wpList_len_nodes _ rfl _ rfl B _ rfl HMZ.out ?_) | (go_at_call 60; refine (HH.out a2 c2 Z HMZ.out HVZ.out.grown HPZ.out).mono ?_; rintro e w5 ⟨rfl, hb5⟩; rw [hok]; have hV5 := HVZ.out.step hb5; have HV5 := hide hV5; have HM5 := hide (HMZ.out.stays hb5); have HP5 := hide (HPZ.out.stays hb5); clear o0 o1 o2 o3 o4 o5 o6 n0 n1 n2 n3 s0 s1 s2 s3; obtain ⟨o0, o1, o2, o3, o4, o5, o6⟩ := cells7 hV5.op; obtain ⟨s0, s1, s2, s3, _, _, _, _⟩ := cells4 hV5.was; clear hV5 hb5) | go_in)
      go_end0
      exact ⟨⟨_, rfl⟩, a2, c2, HBK.out, by rw [HIF.out]; exact HM5.out, HP5.out, HV5.out.grown⟩
  · have hlen' : (150 : Int) < ((kvPut m o.node ⟨n.id, n.parent, n.name, mrgP (keepP ⟨o.name, o.value⟩ n.props) [⟨o.name, o.value⟩], a2, c2⟩).length : Int) := by omega
    have HIF : Hid (doRes m o.node ⟨n.id, n.parent, n.name, mrgP (keepP ⟨o.name, o.value⟩ n.props) [⟨o.name, o.value⟩], a2, c2⟩ n there = backM (kvPut m o.node ⟨n.id, n.parent, n.name, mrgP (keepP ⟨o.name, o.value⟩ n.props) [⟨o.name, o.value⟩], a2, c2⟩) o.node n there) := ⟨by simp [doRes, hlen]⟩
    go_wp2_with (first | (at_mapUpdate; refine wpList_put_node _ rfl _ _ _ rfl B m rfl HMY.out (by unfold maxLen; omega) o.node HX.out rfl ⟨n.id, n.parent, n.name, mrgP (keepP ⟨o.name, o.value⟩ n.props) [⟨o.name, o.value⟩], a2, c2⟩ rfl ?_; intro Z hMZ htZ; have hVZ := HVY.out.turn hBw htZ.grown; have HVZ := hide hVZ; have HMZ := hide hMZ; have HPZ := hide (HPY.out.grown htZ.grown (fun x hx => by have := HBK.out x hx; simp; omega)); clear o0 o1 o2 o3 o4 o5 o6 n0 n1 n2 n3 f3 htZ; obtain ⟨o0, o1, o2, o3, o4, o5, o6⟩ := cells7 hVZ.op; obtain ⟨n0, n1, n2, n3, _, _, _, _⟩ := cells4 hVZ.now; obtain ⟨s0, s1, s2, s3, _, _, _, _⟩ := cells4 hVZ.was; clear hVZ hMZ) | (at_len; refine wpList_len_nodes _ rfl _ rfl B _ rfl HMZ.out ?_) | (go_at_call 101; refine (takeBack_any _ B o.node n there _ HX.out (by have := HL.out; unfold maxLen; omega) HMZ.out).mono ?_; rintro e w6 ⟨⟨v6, rfl⟩, hM6, hg6⟩; have HP6 := hide (HPZ.out.grown hg6 (fun x hx => by have := HBK.out x hx; simp; omega))) | go_in)
    go_end0
    exact ⟨⟨_, rfl⟩, a2, c2, HBK.out, by rw [HIF.out]; exact hM6, HP6.out, HVZ.out.grown.trans hg6⟩
end Go.Proofs.Ytcpgkalafkhlgae.OpR
namespace Go.Proofs.Ytcpgkalafkhlgae.OpR
set_option linter.unusedVariables false

def moveN (o : OpV) (n : NodG) : NodG := ⟨o.node, o.parent, o.name, n.props, n.pao, n.pcap⟩
def setN (o : OpV) (n : NodG) (a : Option Addr) (c : Nat) : NodG := ⟨n.id, n.parent, n.name, setP ⟨o.name, o.value⟩ n.props, a, c⟩
def mayMove (l : List NodG) (o : OpV) : Bool := (placeB l o.parent && (!decide (o.parent = o.node) && !abF (par l) o.node (l.length + 1) o.parent)) && ((nodOf l o.node).isSome || decide (l.length < 150))
def maySet (n : NodG) (o : OpV) : Bool := hasKey n.props o.name || decide (n.props.length < 20)
/-- What a deed makes of nodes; where it makes props anew, they lie at a. -/
def tdo (l : List NodG) (o : OpV) (a : Option Addr) (c : Nat) : List NodG :=
  if o.kind = 1 then (if mayMove l o then putL l (moveN o ((nodOf l o.node).getD NodG.zero)) else l)
  else match nodOf l o.node with
    | none => l
    | some n => if maySet n o then putL l (setN o n a c) else l

/-! ### what a right op and a right tree say -/
structure OpOk (o : OpV) : Prop where
  node : 2 ≤ o.node ∧ o.node ≤ 1000000
  name : NameR.nmB o.name = true
  value : o.value.size ≤ 40
  kind : (o.kind = 1 ∧ 0 ≤ o.parent ∧ o.parent ≤ 1000000) ∨ o.kind = 2
theorem opOk_of {o : OpV} (h : opRight o = true) : OpOk o := by
  unfold opRight kindRight at h
  simp only [Bool.and_eq_true] at h
  obtain ⟨⟨⟨_, h1⟩, h2⟩, h3⟩ := h
  have h1' : 2 ≤ o.node ∧ o.node ≤ 1000000 := by simpa [isIn] using h1
  by_cases k1 : o.kind = 1
  · rw [if_pos k1, Bool.and_eq_true] at h3
    have h3' : 0 ≤ o.parent ∧ o.parent ≤ 1000000 := by simpa [isIn] using h3.1
    have hv : o.value.toList = [] := by simpa using h3.2
    have hz : o.value.size = 0 := by
      rw [ByteArray.toList_eq] at hv
      have := congrArg List.length hv
      simpa using this
    exact ⟨h1', h2, by omega, .inl ⟨k1, h3'⟩⟩
  · rw [if_neg k1] at h3
    by_cases k2 : o.kind = 2
    · rw [if_pos k2, Bool.and_eq_true] at h3
      have hv : (o.value.size : Int) ≤ 40 := by simpa using h3.2
      exact ⟨h1', h2, by omega, .inr k2⟩
    · rw [if_neg k2] at h3; cases h3
theorem OpOk.prop {o : OpV} (h : OpOk o) : propOk ⟨o.name, o.value⟩ = true := by
  have := h.value
  have h2 : (o.value.size : Int) ≤ 40 := by omega
  simp [propOk, h.name, h2]
structure NodOk (l : List NodG) (n : NodG) : Prop where
  id : isIn n.id 2 1000000 = true
  name : NameR.nmB n.name = true
  props : PropsOk n.props
  ends : endsF (par l) (l.length + 1) n.id = true
theorem nodOk_parts {l : List NodG} {n : NodG} (h : nodOk l n = true) : NodOk l n := by
  unfold nodOk at h
  rw [Bool.and_eq_true, Bool.and_eq_true, Bool.and_eq_true] at h
  exact ⟨h.1, h.2.1, (propsOk_iff _).1 h.2.2.1, h.2.2.2⟩
theorem NodOk.yes {l : List NodG} {n : NodG} (h : NodOk l n) : nodOk l n = true := by
  unfold nodOk
  rw [h.id, h.name, propsOk_yes h.props, h.ends]; rfl
theorem propsOk_none : PropsOk [] := ⟨by simp, by simp, by simp⟩
theorem was_props {l : List NodG} {x : Int} {n : NodG} {there : Bool} (ht : TreeR l) (h : Was (kvOf l) x n there) : PropsOk n.props := by
  rcases h with ⟨h1, _⟩ | ⟨_, rfl, _⟩
  · rw [kvAt_of] at h1
    exact (nodOk_parts (ht.2.2 n (nodOf_some h1).1)).props
  · exact propsOk_none
theorem was_of (l : List NodG) (x : Int) : Was (kvOf l) x ((nodOf l x).getD NodG.zero) (nodOf l x).isSome := by
  unfold Was
  rw [kvAt_of]
  cases nodOf l x with
  | none => exact .inr ⟨rfl, rfl, rfl⟩
  | some n => exact .inl ⟨rfl, rfl⟩

/-! ### impl's way -/
theorem put_par0 {l : List NodG} (ht : TreeR l) {n : NodG} (hn : 2 ≤ n.id) : par (putL l n) 0 = none ∧ par (putL l n) 1 = none := by
  obtain ⟨p0, p1⟩ := tree_par ht
  constructor
  · unfold par at *; rw [nodOf_put_other l n (by omega)]; exact p0
  · unfold par at *; rw [nodOf_put_other l n (by omega)]; exact p1
theorem doRes_move {l : List NodG} {o : OpV} (ht : TreeR l) (ho : OpOk o) (hk : o.kind = 1) (a : Option Addr) (c : Nat) :
    doRes (kvOf l) o.node (moveN o ((nodOf l o.node).getD NodG.zero)) ((nodOf l o.node).getD NodG.zero) (nodOf l o.node).isSome = kvOf (tdo l o a c) := by
  have hW := was_of l o.node
  have hpr := was_props ht hW
  have hid : (moveN o ((nodOf l o.node).getD NodG.zero)).id = o.node := rfl
  have hN : 2 ≤ (moveN o ((nodOf l o.node).getD NodG.zero)).id := ho.node.1
  have hlen : decide ((putL l (moveN o ((nodOf l o.node).getD NodG.zero))).length ≤ 150) = ((nodOf l o.node).isSome || decide (l.length < 150)) := by
    have h150 := ht.1
    cases e : nodOf l o.node with
    | none => rw [putL_len_none (by rw [← e]; rfl)]; simp; omega
    | some m => rw [putL_len_some ht.2.1 (m := m) e]; simp; omega
  have hends := put_ends ht hN
  obtain ⟨q0, q1⟩ := put_par0 ht hN
  rw [ends_ab q0 q1] at hends
  have hput : kvPut (kvOf l) o.node (moveN o ((nodOf l o.node).getD NodG.zero)) = kvOf (putL l (moveN o ((nodOf l o.node).getD NodG.zero))) := kvOf_put l (moveN o ((nodOf l o.node).getD NodG.zero))
  have hho : holdsB (kvOf (putL l (moveN o ((nodOf l o.node).getD NodG.zero)))) (moveN o ((nodOf l o.node).getD NodG.zero)) = (placeB l o.parent && (!decide (o.parent = o.node) && !abF (par l) o.node (l.length + 1) o.parent)) := by
    rw [holds_of]
    unfold nodOkI
    rw [hends]
    have h1 : isIn (moveN o ((nodOf l o.node).getD NodG.zero)).id 2 1000000 = true := by simpa [isIn, hid] using ho.node
    have h2 : NameR.nmB (moveN o ((nodOf l o.node).getD NodG.zero)).name = true := ho.name
    have h3 : propsOk (moveN o ((nodOf l o.node).getD NodG.zero)).props = true := propsOk_yes hpr
    rw [h1, h2, h3]; rfl
  have hback := back_is (riseK_of ht.2.1) hW (n' := moveN o ((nodOf l o.node).getD NodG.zero))
  unfold doRes tdo mayMove
  rw [hback, hput, hho, kvOf_len, hlen, if_pos hk, Bool.and_comm]
  split <;> rfl
theorem doRes_set {l : List NodG} {o : OpV} (ht : TreeR l) (ho : OpOk o) (hk : o.kind = 2) (a : Option Addr) (c : Nat) (n : NodG) (hn : (nodOf l o.node).getD NodG.zero = n) :
    doRes (kvOf l) o.node ⟨n.id, n.parent, n.name, mrgP (keepP ⟨o.name, o.value⟩ n.props) [⟨o.name, o.value⟩], a, c⟩ n (nodOf l o.node).isSome = kvOf (tdo l o a c) := by
  have hW := was_of l o.node
  rw [hn] at hW
  have hpr := was_props ht hW
  have hset : mrgP (keepP ⟨o.name, o.value⟩ n.props) [⟨o.name, o.value⟩] = setP ⟨o.name, o.value⟩ n.props := setP_mrg ⟨o.name, o.value⟩ (rise_pair hpr.2.2)
  have hback := back_is (riseK_of ht.2.1) hW (n' := setN o n a c)
  have hk1 : ¬ o.kind = 1 := by omega
  rw [hset]
  show doRes (kvOf l) o.node (setN o n a c) n (nodOf l o.node).isSome = kvOf (tdo l o a c)
  unfold doRes tdo
  rw [hback, if_neg hk1]
  cases e : nodOf l o.node with
  | none =>
    rw [e] at hn
    have hz : n = NodG.zero := hn.symm
    have hid : isIn (setN o n a c).id 2 1000000 = false := by rw [hz]; rfl
    have hno : holdsB (kvPut (kvOf l) o.node (setN o n a c)) (setN o n a c) = false := by unfold holdsB; rw [hid]; rfl
    rw [hno, Bool.and_false]; rfl
  | some m =>
    rw [e] at hn
    have hm : m = n := hn
    subst hm
    obtain ⟨hmem, hmid⟩ := nodOf_some e
    have hOk := nodOk_parts (ht.2.2 m hmem)
    have hid : (setN o m a c).id = o.node := hmid
    have hput : kvPut (kvOf l) o.node (setN o m a c) = kvOf (putL l (setN o m a c)) := by rw [← kvOf_put, hid]
    have e' : nodOf l (setN o m a c).id = some m := by rw [hid]; exact e
    have hpar : par (putL l (setN o m a c)) = par l := put_same e' rfl
    have hlen := putL_len_some ht.2.1 e'
    obtain ⟨p0, p1⟩ := tree_par ht
    have hho : holdsB (kvOf (putL l (setN o m a c))) (setN o m a c) = maySet m o := by
      rw [holds_of]
      unfold nodOkI
      rw [hpar, hlen, ← ends_ab p0 p1]
      have h1 : isIn (setN o m a c).id 2 1000000 = true := hOk.id
      have h2 : NameR.nmB (setN o m a c).name = true := hOk.name
      have h3 : propsOk (setN o m a c).props = maySet m o := propsOk_set hOk.props ho.prop
      have h4 : endsF (par l) (l.length + 1) (setN o m a c).id = true := hOk.ends
      rw [h1, h2, h3, h4]; simp
    have h150 : decide ((putL l (setN o m a c)).length ≤ 150) = true := by rw [hlen]; simpa using ht.1
    rw [hput, hho, kvOf_len, h150, Bool.true_and]
    show (if maySet m o = true then _ else _) = kvOf (if maySet m o = true then _ else _)
    split <;> rfl

/-! ### a right tree stays right -/
theorem ends_through {f g : Int → Option Int} {x : Int} (hfg : ∀ z, z ≠ x → f z = g z) {j : Nat} (hx : endsF g j x = true) : ∀ (k : Nat) (y : Int), endsF f k y = true → ∃ i, endsF g i y = true
  | 0, y, h => by cases h
  | k + 1, y, h => by
    by_cases hy : y = x
    · exact ⟨j, by rw [hy]; exact hx⟩
    · obtain ⟨i, hi, hc⟩ := ends_cases h
      rcases hc with hl | ⟨h0, h1, z, hz, hez⟩
      · exact ⟨1, ends_low hl⟩
      · have hki : i = k := by omega
        subst hki
        obtain ⟨q, hq⟩ := ends_through hfg hx i z hez
        exact ⟨q + 1, by rw [ends_step h0 h1 (by rw [← hfg y hy]; exact hz)]; exact hq⟩
theorem put_right {l : List NodG} (ht : TreeR l) {n : NodG} (h1 : isIn n.id 2 1000000 = true) (h2 : NameR.nmB n.name = true) (h3 : PropsOk n.props) (hl : (putL l n).length ≤ 150) (he : endsF (par (putL l n)) ((putL l n).length + 1) n.id = true) : TreeR (putL l n) := by
  have hn2 : 2 ≤ n.id := by have : 2 ≤ n.id ∧ n.id ≤ 1000000 := by simpa [isIn] using h1
                            exact this.1
  have hfg : ∀ z, z ≠ n.id → par l z = par (putL l n) z := fun z hz => by unfold par; rw [nodOf_put_other l n hz]
  obtain ⟨q0, q1⟩ := put_par0 ht hn2
  have hdom : ∀ z y, par (putL l n) z = some y → z ∈ (putL l n).map NodG.id := fun z y hz => by
    unfold par at hz
    obtain ⟨m, hm, _⟩ := Option.map_eq_some_iff.1 hz
    obtain ⟨h1, h2⟩ := nodOf_some hm
    exact List.mem_map.2 ⟨m, h1, h2⟩
  refine ⟨hl, putL_rise ht.2.1 n, fun x hx => ?_⟩
  rcases putL_mem hx with rfl | hx
  · exact NodOk.yes ⟨h1, h2, h3, he⟩
  · have hOk := nodOk_parts (ht.2.2 x hx)
    obtain ⟨i, hi⟩ := ends_through hfg he _ _ hOk.ends
    exact NodOk.yes ⟨hOk.id, hOk.name, hOk.props, ends_short (putL l n).length _ ((putL l n).map NodG.id) (by simp) hdom q0 q1 hi⟩
theorem tdo_right {l : List NodG} {o : OpV} (ht : TreeR l) (ho : OpOk o) (a : Option Addr) (c : Nat) : TreeR (tdo l o a c) := by
  have hW := was_of l o.node
  have hpr := was_props ht hW
  unfold tdo
  by_cases hk : o.kind = 1
  · rw [if_pos hk]
    by_cases hm : mayMove l o = true
    · rw [if_pos hm]
      have hN : 2 ≤ (moveN o ((nodOf l o.node).getD NodG.zero)).id := ho.node.1
      have hm' := hm
      unfold mayMove at hm'
      rw [Bool.and_eq_true] at hm'
      have h150 := ht.1
      refine put_right ht (show isIn o.node 2 1000000 = true by simpa [isIn] using ho.node) ho.name hpr ?_ ((put_ends ht hN).trans hm'.1)
      cases e : nodOf l o.node with
      | none =>
        have := hm'.2
        rw [e] at this
        rw [putL_len_none (by rw [← e]; rfl)]
        simp at this
        omega
      | some m => rw [putL_len_some ht.2.1 (m := m) e]; exact h150
    · rw [if_neg hm]; exact ht
  · rw [if_neg hk]
    cases e : nodOf l o.node with
    | none => exact ht
    | some m =>
      show TreeR (if maySet m o = true then _ else _)
      by_cases hm : maySet m o = true
      · rw [if_pos hm]
        obtain ⟨hmem, hmid⟩ := nodOf_some e
        have hOk := nodOk_parts (ht.2.2 m hmem)
        have e' : nodOf l (setN o m a c).id = some m := by rw [show (setN o m a c).id = o.node from hmid]; exact e
        have hpar : par (putL l (setN o m a c)) = par l := put_same e' rfl
        have hlen := putL_len_some ht.2.1 e'
        have h3 : propsOk (setN o m a c).props = maySet m o := propsOk_set hOk.props ho.prop
        exact put_right ht hOk.id hOk.name ((propsOk_iff _).1 (h3.trans hm)) (by rw [hlen]; exact ht.1) (by rw [hpar, hlen]; exact hOk.ends)
      · rw [if_neg hm]; exact ht
theorem tdo_mem {l : List NodG} {o : OpV} {a : Option Addr} {c : Nat} {x : NodG} (h : x ∈ tdo l o a c) : x ∈ l ∨ (x = moveN o ((nodOf l o.node).getD NodG.zero) ∧ o.kind = 1) ∨ ∃ n, o.kind ≠ 1 ∧ nodOf l o.node = some n ∧ x = setN o n a c := by
  unfold tdo at h
  by_cases hk : o.kind = 1
  · rw [if_pos hk] at h
    split at h
    · rcases putL_mem h with rfl | h
      · exact .inr (.inl ⟨rfl, hk⟩)
      · exact .inl h
    · exact .inl h
  · rw [if_neg hk] at h
    cases e : nodOf l o.node with
    | none => rw [e] at h; exact .inl h
    | some m =>
      rw [e] at h
      change x ∈ (if maySet m o = true then _ else _) at h
      split at h
      · rcases putL_mem h with rfl | h
        · exact .inr (.inr ⟨m, hk, rfl, rfl⟩)
        · exact .inl h
      · exact .inl h
theorem kvIns_bare (x : Int) (n : NodG) : ∀ m : List (Int × NodG), (kvIns x n m).map (fun p => (p.1, p.2.bare)) = kvIns x n.bare (m.map fun p => (p.1, p.2.bare))
  | [] => rfl
  | q :: r => by
    rw [List.map_cons]
    unfold kvIns
    by_cases h : x < q.1
    · rw [if_pos h, if_pos h]; rfl
    · rw [if_neg h, if_neg h, List.map_cons, kvIns_bare x n r]
theorem kvDel_bare (x : Int) (m : List (Int × NodG)) : (kvDel m x).map (fun p => (p.1, p.2.bare)) = kvDel (m.map fun p => (p.1, p.2.bare)) x := by
  unfold kvDel
  rw [List.filter_map]
  rfl
theorem putL_bare (l : List NodG) (n : NodG) : (putL l n).map NodG.bare = putL (l.map NodG.bare) n.bare := by
  have h1 : (kvOf l).map (fun p => (p.1, p.2.bare)) = kvOf (l.map NodG.bare) := by simp [kvOf, NodG.bare]
  unfold putL
  show _ = (kvPut (kvOf (l.map NodG.bare)) n.id n.bare).map Prod.snd
  rw [← h1]
  unfold kvPut
  rw [← kvDel_bare, ← kvIns_bare, List.map_map, List.map_map]
  rfl
/-- Nothing hangs on where the props lie. -/
theorem tdo_bare (l : List NodG) (o : OpV) (a : Option Addr) (c : Nat) : (tdo l o a c).map NodG.bare = tdo (l.map NodG.bare) o none 0 := by
  unfold tdo
  have hm : mayMove (l.map NodG.bare) o = mayMove l o := by
    unfold mayMove placeB
    rw [par_bare, nodOf_bare, nodOf_bare]
    simp
  rw [hm, nodOf_bare]
  split
  · split
    · rw [putL_bare]
      cases nodOf l o.node <;> rfl
    · rfl
  · cases nodOf l o.node with
    | none => rfl
    | some n =>
      show List.map NodG.bare (if maySet n o = true then _ else _) = (if maySet n o = true then _ else _)
      split
      · rw [putL_bare]; rfl
      · rfl
theorem tdo_alike {l d : List NodG} (h : d.map NodG.bare = l.map NodG.bare) (o : OpV) (a b : Option Addr) (c e : Nat) : (tdo d o a c).map NodG.bare = (tdo l o b e).map NodG.bare := by
  rw [tdo_bare, tdo_bare, h]
/-- What TreeDo answers. -/
def treeDo (l : List NodG) (o : OpV) : List NodG := if treeRight l && opRight o then tdo l o none 0 else l
theorem treeDo_alike {l d : List NodG} (h : d.map NodG.bare = l.map NodG.bare) (o : OpV) : (treeDo d o).map NodG.bare = (treeDo l o).map NodG.bare := by
  unfold treeDo
  rw [tree_alike h]
  split
  · exact tdo_alike h o _ _ _ _
  · exact h
theorem tree_sized {l : List NodG} (ht : TreeR l) : ∀ n ∈ l, Sized1 1048576 n := fun n hn => by
  have hOk := nodOk_parts (ht.2.2 n hn)
  have h1 := (NameR.nmB_iff _).1 hOk.name
  refine ⟨by omega, by have := hOk.props.1; omega, fun p hp => ?_⟩
  have := hOk.props.2.1 p hp
  unfold propOk at this
  rw [Bool.and_eq_true, NameR.nmB_iff] at this
  have h3 : (p.value.size : Int) ≤ 40 := by simpa using this.2
  omega
theorem tree_rng {l : List NodG} (ht : TreeR l) : Rng l := fun n hn => by
  have hOk := nodOk_parts (ht.2.2 n hn)
  have h1 : 2 ≤ n.id ∧ n.id ≤ 1000000 := by simpa [isIn] using hOk.id
  refine ⟨⟨by omega, by omega⟩, ?_⟩
  have hpn : par l n.id = some n.parent := by unfold par; rw [nodOf_mem ht.2.1 hn]; rfl
  have he := hOk.ends
  rw [ends_step (by omega) (by omega) hpn] at he
  obtain ⟨j, _, hc⟩ := ends_cases he
  rcases hc with hl | ⟨h0, h1, z, hz, hez⟩
  · unfold In64; omega
  · unfold par at hz
    obtain ⟨m, hm, _⟩ := Option.map_eq_some_iff.1 hz
    obtain ⟨hmm, hid⟩ := nodOf_some hm
    have h2 : 2 ≤ m.id ∧ m.id ≤ 1000000 := by simpa [isIn] using (nodOk_parts (ht.2.2 m hmm)).id
    unfold In64; omega
end Go.Proofs.Ytcpgkalafkhlgae.OpR
namespace Go.Proofs.Ytcpgkalafkhlgae.OpR
open Go.ChangeShapes Go.WideShapes Go.ChangeAt Go.RowKit
set_option linter.unusedVariables false

/-- The props of nodes lie, and none in the map's own block. -/
structure PropsIn (w : World) (B : Nat) (l : List NodG) : Prop where
  at_ : ∀ n ∈ l, PropsAt w n.pao n.props
  off : ∀ n ∈ l, n.props ≠ [] → ∀ x, n.pao = some x → x.block ≠ B
theorem props_nil (w : World) (ao : Option Addr) : PropsAt w ao [] := fun j hj => absurd hj (by simp)
theorem PropsIn.getD {w : World} {B : Nat} {l : List NodG} (h : PropsIn w B l) (x : Int) : PropsAt w ((nodOf l x).getD NodG.zero).pao ((nodOf l x).getD NodG.zero).props ∧ (((nodOf l x).getD NodG.zero).props ≠ [] → ∀ y, ((nodOf l x).getD NodG.zero).pao = some y → y.block ≠ B) := by
  cases e : nodOf l x with
  | none => exact ⟨props_nil _ _, fun _ y hy => by cases hy⟩
  | some n => exact ⟨h.at_ n (nodOf_some e).1, h.off n (nodOf_some e).1⟩
theorem PropsAt.turn {w w' : World} {B : Nat} {ao : Option Addr} {ps : List PropV} (h : PropsAt w ao ps) (hg : w.grownBy w' (some B)) (ho : ps ≠ [] → ∀ y, ao = some y → y.block ≠ B) : PropsAt w' ao ps := by
  cases ps with
  | nil => exact props_nil _ _
  | cons p r => exact h.grown hg fun a ha e => ho (by simp) a ha (Option.some.inj e)
theorem PropsIn.grown {w w' : World} {B : Nat} {l : List NodG} (h : PropsIn w B l) (hg : w.grownBy w' (some B)) : PropsIn w' B l :=
  ⟨fun n hn => (h.at_ n hn).turn hg (h.off n hn), h.off⟩
theorem PropsIn.stays {w w' : World} {B : Nat} {l : List NodG} (h : PropsIn w B l) (hb : Below w.heap.size w w') : PropsIn w' B l :=
  ⟨fun n hn => (h.at_ n hn).stays hb, h.off⟩
theorem PropsIn.start {w w' : World} {B : Nat} {ao : Option Addr} {l : List NodG} (h : NodesAt w ao l) (hb : Below w.heap.size w w') (hB : w.heap.size ≤ B) : PropsIn w' B l :=
  ⟨fun n hn => (h.props n hn).stays hb, fun n hn hne x hx => by
    have hlen : 0 < n.props.length := List.length_pos_iff.2 hne
    obtain ⟨b, off, e, hlt, _⟩ := h.props n hn 0 hlen
    rw [hx] at e
    have := congrArg Addr.block (Option.some.inj e)
    simp at this
    omega⟩
theorem rng_put {l : List NodG} (hg : Rng l) (x : Int) {n : NodG} (hn : In64 n.parent) : RngM (kvPut (kvOf l) x n) := fun p hp => by
  rcases kvPut_mem hp with rfl | hp
  · exact hn
  · exact rngM_of hg p hp
theorem getD_sized {l : List NodG} (ht : TreeR l) (x : Int) : Sized1 1048576 ((nodOf l x).getD NodG.zero) ∧ In64 ((nodOf l x).getD NodG.zero).id ∧ In64 ((nodOf l x).getD NodG.zero).parent := by
  cases e : nodOf l x with
  | none => exact ⟨⟨by decide, by decide, fun p hp => by cases hp⟩, by unfold In64; decide, by unfold In64; decide⟩
  | some n => exact ⟨tree_sized ht n (nodOf_some e).1, tree_rng ht n (nodOf_some e).1⟩
theorem do_any (l : List NodG) (B : Nat) (o : OpV) (w : World) (ht : TreeR l) (ho : OpOk o) (hM : MapAt w B (kvOf l)) (hP : PropsIn w B l) :
    Calls Try.prog 67 #[.map (some B), o.agg] w fun e w' => (∃ v, e = .returned v) ∧ ∃ a c, MapAt w' B (kvOf (tdo l o a c)) ∧ PropsIn w' B (tdo l o a c) ∧ w.grownBy w' (some B) := by
  have h150 := ht.1
  have hx : In64 o.node := by have := ho.node; unfold In64; omega
  have hW := was_of l o.node
  have hpr := was_props ht hW
  obtain ⟨hG1, hG2⟩ := hP.getD o.node
  obtain ⟨hS, hI1, hI2⟩ := getD_sized ht o.node
  have hnm := (NameR.nmB_iff _).1 ho.name
  have hval := ho.value
  have hBw := hM.lt
  rcases ho.kind with ⟨hk, hp0, hp1⟩ | hk
  · refine (doMove_any (kvOf l) B o _ _ w hk hx hW (by rw [kvOf_len]; exact h150) hM fun W hMW hg => ?_).mono ?_
    · exact holds_any (kvPut (kvOf l) o.node (moveN o ((nodOf l o.node).getD NodG.zero))) B (moveN o ((nodOf l o.node).getD NodG.zero)) W (by have := put_le (kvOf l) o.node (moveN o ((nodOf l o.node).getD NodG.zero)); rw [kvOf_len] at this; omega) (rng_put (tree_rng ht) _ (show In64 o.parent by unfold In64; omega)) hx ⟨show o.name.size ≤ 1048576 by omega, hS.2.1, hS.2.2⟩ (hG1.turn hg hG2) hMW
    · rintro e w' ⟨hv, hM', hg⟩
      refine ⟨hv, none, 0, ?_, ⟨fun n hn => ?_, fun n hn => ?_⟩, hg⟩
      · rw [← doRes_move ht ho hk]; exact hM'
      · rcases tdo_mem hn with hn | ⟨rfl, _⟩ | ⟨m, h1, _⟩
        · exact (hP.grown hg).at_ n hn
        · exact hG1.turn hg hG2
        · exact absurd hk h1
      · rcases tdo_mem hn with hn | ⟨rfl, _⟩ | ⟨m, h1, _⟩
        · exact hP.off n hn
        · exact hG2
        · exact absurd hk h1
  · have hset : mrgP (keepP ⟨o.name, o.value⟩ ((nodOf l o.node).getD NodG.zero).props) [⟨o.name, o.value⟩] = setP ⟨o.name, o.value⟩ ((nodOf l o.node).getD NodG.zero).props := setP_mrg ⟨o.name, o.value⟩ (rise_pair hpr.2.2)
    refine (doSet_any (kvOf l) B o _ _ w hk hx hW (by rw [kvOf_len]; exact h150) hM hpr.1 hG1 fun a2 c2 W hMW hg hA => ?_).mono ?_
    · refine holds_any _ B ⟨((nodOf l o.node).getD NodG.zero).id, ((nodOf l o.node).getD NodG.zero).parent, ((nodOf l o.node).getD NodG.zero).name, mrgP (keepP ⟨o.name, o.value⟩ ((nodOf l o.node).getD NodG.zero).props) [⟨o.name, o.value⟩], a2, c2⟩ W ?_ (rng_put (tree_rng ht) _ hI2) hI1 ⟨hS.1, ?_, fun p hp => ?_⟩ hA hMW
      · refine Nat.le_trans (put_le _ _ _) ?_
        rw [kvOf_len]; omega
      · show (mrgP (keepP ⟨o.name, o.value⟩ ((nodOf l o.node).getD NodG.zero).props) [⟨o.name, o.value⟩]).length ≤ 1048576
        rw [hset, setP_len _ _ (rise_pair hpr.2.2)]
        have := hpr.1
        split <;> omega
      · rw [show (NodG.props _) = setP ⟨o.name, o.value⟩ ((nodOf l o.node).getD NodG.zero).props from hset] at hp
        rcases setP_mem hp with rfl | hp
        · exact ⟨show o.name.size ≤ 1048576 by omega, show o.value.size ≤ 1048576 by omega⟩
        · exact hS.2.2 p hp
    · rintro e w' ⟨hv, a2, c2, hbk, hM', hA, hg⟩
      refine ⟨hv, a2, c2, ?_, ⟨fun n hn => ?_, fun n hn => ?_⟩, hg⟩
      · rw [← doRes_set ht ho hk a2 c2 _ rfl]; exact hM'
      · rcases tdo_mem hn with hn | ⟨_, h1⟩ | ⟨m, h1, h2, rfl⟩
        · exact (hP.grown hg).at_ n hn
        · omega
        · rw [hset, h2] at hA; exact hA
      · rcases tdo_mem hn with hn | ⟨_, h1⟩ | ⟨m, h1, h2, rfl⟩
        · exact hP.off n hn
        · omega
        · intro _ x hx'
          have := hbk x hx'
          omega
end Go.Proofs.Ytcpgkalafkhlgae.OpR
namespace Go.Proofs.Ytcpgkalafkhlgae.OpR
open Go.ChangeShapes Go.WideShapes Go.ChangeAt Go.RowKit
set_option linter.unusedVariables false

/-- The variables of TreeDo: the tree, the op, the answer. -/
structure DoB (w c : World) (sv rv : Value) (o : OpV) : Prop where
  below : Below w.heap.size w c
  tv : c.heap[w.heap.size]? = some (.cells #[sv] 43 (0, 0))
  op : c.heap[w.heap.size + 1]? = some (.cells #[.int .i64 o.time, .int .i64 o.repl, .int .i64 o.kind, .int .i64 o.node, .int .i64 o.parent, .string o.name, .string o.value] 51 (0, 0))
  rv : c.heap[w.heap.size + 1 + 1]? = some (.cells #[rv] 43 (0, 0))
theorem DoB.lt {w c : World} {sv rv : Value} {o : OpV} (h : DoB w c sv rv o) : w.heap.size + 1 + 1 < c.heap.size := (Array.getElem?_eq_some_iff.1 h.rv).1
theorem DoB.step {w c c' : World} {sv rv : Value} {o : OpV} (h : DoB w c sv rv o) (hb : Below c.heap.size c c') : DoB w c' sv rv o :=
  have hl := h.lt
  ⟨h.below.trans (hb.mono h.below.size), (hb.block _ (by omega)).trans h.tv, (hb.block _ (by omega)).trans h.op, (hb.block _ (by omega)).trans h.rv⟩
theorem DoB.turn {w c c' : World} {sv rv : Value} {o : OpV} {B : Nat} (h : DoB w c sv rv o) (hB : w.heap.size + 1 + 1 < B) (hg : c.grownBy c' (some B)) : DoB w c' sv rv o :=
  have hl := h.lt
  have hs := h.below.size
  ⟨⟨hg.os.trans h.below.os, hg.tape.trans h.below.tape, hg.output.trans h.below.output, Nat.le_trans hs hg.size, fun k hk => (hg.block k (by omega) (by simp; omega)).trans (h.below.block k hk)⟩, (hg.block _ (by omega) (by simp; omega)).trans h.tv, (hg.block _ (by omega) (by simp; omega)).trans h.op, (hg.block _ (by omega) (by simp; omega)).trans h.rv⟩
theorem DoB.start (w : World) (sv rv : Value) (o : OpV) : DoB w (((w.alloc (.cells #[sv] 43)).alloc (.cells #[.int .i64 o.time, .int .i64 o.repl, .int .i64 o.kind, .int .i64 o.node, .int .i64 o.parent, .string o.name, .string o.value] 51)).alloc (.cells #[rv] 43)) sv rv o :=
  ⟨(((Below.refl _ _).alloc (Nat.le_refl _) _).alloc (by simp) _).alloc (by simp; omega) _, by
    rw [Below.heap_alloc _ _ _ (by simp; omega), Below.heap_alloc _ _ _ (by simp)]; exact heap_alloc_new w _, mid3 _ _ _ _, last3 _ _ _ _⟩

theorem DoB.fin {w w1 w4 : World} {sv rv sv' rv' v : Value} {o : OpV} {d : List NodG} (h1 : DoB w w1 sv rv o) (h4 : DoB w w4 sv' rv' o) (ht : TreeOwn w4 w1.heap.size v d) (x : Value) :
    TreeOwn (w4.setCell ⟨w.heap.size + 1 + 1, 0, none⟩ x) w.heap.size v d ∧ Below w.heap.size w (w4.setCell ⟨w.heap.size + 1 + 1, 0, none⟩ x) := by
  have hl := h1.lt
  refine ⟨(ht.moved (fun g hg => ?_)).lower (by omega), h4.below.setCell (p := ⟨w.heap.size + 1 + 1, 0, none⟩) (show w.heap.size ≤ w.heap.size + 1 + 1 by omega) _⟩
  exact Below.heap_setCell _ _ _ _ (by simp; omega)

set_option maxRecDepth 100000 in
set_option maxHeartbeats 1000000 in
theorem iTreeDo_any (l : List NodG) (ao : Option Addr) (cap : Nat) (o : OpV) (w : World) (hl : l.length ≤ 1048576) (hg : Rng l) (hA : NodesAt w ao l) (hS : ∀ n ∈ l, Sized1 1048576 n) (hn : o.name.size ≤ maxLen) (hv : o.value.size ≤ maxLen) :
    Calls Try.prog 28 #[.agg #[.slice ao l.length cap], o.agg] w fun e w' => ∃ v d, e = .returned (.agg #[v]) ∧ TreeOwn w' w.heap.size v d ∧ d.map NodG.bare = (treeDo l o).map NodG.bare ∧ Below w.heap.size w w' := by
  have htr := fun W (hW : Below w.heap.size w W) => iTree_any l ao cap W hl hg (hA.stays hW) hS
  have hop := fun W => iOp_any o W hn hv
  have hown := fun W (hW : Below w.heap.size w W) => ownNodes_any l ao cap W hl (hA.stays hW) hS
  have HOWN := hide hown
  have HOP := hide hop
  have HA := hide hA
  have HG := hide hg
  have H1 := hide (DoB.start w (.slice ao l.length cap) (.slice none 0 0) o)
  clear hA hS hg hn hv hown
  unfold OpV.agg at *
  cases ht : treeRight l
  · have HF : Hid (treeDo l o = l) := ⟨by simp [treeDo, ht]⟩
    simp only [ht] at htr
    clear hop HG HA HOP
    go_enter Try.func28, Try.ntmps28
    go_wp2_with (first | (go_at_call 23; refine (htr _ H1.out.below).mono ?_; rintro e w1 ⟨rfl, hb1⟩; have H2 := hide (H1.out.step hb1); have hc := (cells1 H2.out.tv).1; clear hb1 htr) | (go_at_call 66; refine (HOWN.out w1 H2.out.below).mono ?_; rintro e w4 ⟨v4, d4, rfl, ht4, hd4, hb4⟩; obtain ⟨a4, c4, rfl, _, _⟩ := owns_atN ht4.row; have H5 := hide (H2.out.step hb4); have HT4 := hide ht4; have HD4 := hide hd4; have hr := (cells1 H5.out.rv).1; have hf := (cells1 H5.out.rv).2; clear hc ht4 hd4))
    obtain ⟨F1, F2⟩ := H2.out.fin H5.out HT4.out (.slice a4 d4.length c4)
    refine bodyPost_ret (v := .agg #[.slice a4 d4.length c4]) (by simp [results, Try.results28, go_sem, hr]) rfl ⟨_, d4, rfl, F1, by rw [HF.out]; exact HD4.out, F2⟩
  · cases hor : opRight o
    · have HF : Hid (treeDo l o = l) := ⟨by simp [treeDo, hor]⟩
      simp only [ht] at htr
      simp only [hor] at hop
      clear HG HA HOP
      go_enter Try.func28, Try.ntmps28
      go_wp2_with (first | (go_at_call 23; refine (htr _ H1.out.below).mono ?_; rintro e w1 ⟨rfl, hb1⟩; have H2 := hide (H1.out.step hb1); obtain ⟨o0, o1, o2, o3, o4, o5, o6⟩ := cells7 H2.out.op; clear hb1 htr) | (go_at_call 65; refine (hop w1).mono ?_; rintro e w2 ⟨rfl, hb2⟩; have H3 := hide (H2.out.step hb2); have hc := (cells1 H3.out.tv).1; clear hb2 hop o0 o1 o2 o3 o4 o5 o6) | (go_at_call 66; refine (HOWN.out w2 H3.out.below).mono ?_; rintro e w4 ⟨v4, d4, rfl, ht4, hd4, hb4⟩; obtain ⟨a4, c4, rfl, _, _⟩ := owns_atN ht4.row; have H5 := hide (H3.out.step hb4); have HT4 := hide ht4; have HD4 := hide hd4; have hr := (cells1 H5.out.rv).1; have hf := (cells1 H5.out.rv).2; clear hc ht4 hd4))
      obtain ⟨F1, F2⟩ := H3.out.fin H5.out HT4.out (.slice a4 d4.length c4)
      refine bodyPost_ret (v := .agg #[.slice a4 d4.length c4]) (by simp [results, Try.results28, go_sem, hr]) rfl ⟨_, d4, rfl, F1, by rw [HF.out]; exact HD4.out, F2⟩
    · have HF : Hid (treeDo l o = tdo l o none 0) := ⟨by simp [treeDo, ht, hor]⟩
      have HTR := hide ((treeR_iff l).1 ht)
      have HOK := hide (opOk_of hor)
      have hno := fun W (hW : Below w.heap.size w W) => nodesOf_any l ao cap W hl HTR.out.2.1 HG.out (HA.out.stays hW)
      have HNO := hide hno
      have hdo := fun B W (hM : MapAt W B (kvOf l)) (hP : PropsIn W B l) => do_any l B o W HTR.out HOK.out hM hP
      unfold OpV.agg at hdo
      have HDO := hide hdo
      simp only [ht] at htr
      simp only [hor] at hop
      clear HG HOP HOWN hno hdo
      go_enter Try.func28, Try.ntmps28
      go_wp2_with (first | (go_at_call 23; refine (htr _ H1.out.below).mono ?_; rintro e w1 ⟨rfl, hb1⟩; have H2 := hide (H1.out.step hb1); obtain ⟨o0, o1, o2, o3, o4, o5, o6⟩ := cells7 H2.out.op; clear hb1 htr) | (go_at_call 65; refine (hop w1).mono ?_; rintro e w2 ⟨rfl, hb2⟩; have H3 := hide (H2.out.step hb2); have hc := (cells1 H3.out.tv).1; clear hb2 hop o0 o1 o2 o3 o4 o5 o6) | (go_at_call 59; refine (HNO.out w2 H3.out.below).mono ?_; rintro e w3 ⟨B, rfl, hB, hM3, hb3⟩; have H4 := hide (H3.out.step hb3); have HM3 := hide hM3; have HB : Hid (w.heap.size + 1 + 1 < B) := ⟨by have := H3.out.lt; omega⟩; have HP3 := hide (PropsIn.start (B := B) HA.out H4.out.below (by have := HB.out; omega)); obtain ⟨o0, o1, o2, o3, o4, o5, o6⟩ := cells7 H4.out.op; clear hM3 hb3 hc hB) | (go_at_call 67; refine (HDO.out B w3 HM3.out HP3.out).mono ?_; rintro e w4 ⟨⟨v4, rfl⟩, a4, c4, hM4, hP4, hg4⟩; have H5 := hide (H4.out.turn HB.out hg4); have HM4 := hide hM4; have HP4 := hide hP4; have HR4 := hide (tdo_right HTR.out HOK.out a4 c4); clear hM4 hP4 hg4 o0 o1 o2 o3 o4 o5 o6) | (go_at_call 68; refine (treeM_any (tdo l o a4 c4) B w4 (by have := HR4.out.1; omega) HR4.out.2.1 (tree_sized HR4.out) HP4.out.at_ HM4.out).mono ?_; rintro e w5 ⟨v5, d5, rfl, ht5, hd5, hb5⟩; obtain ⟨a5, c5, rfl, _, _⟩ := owns_atN ht5.row; have H6 := hide (H5.out.step hb5); have HT5 := hide ht5; have HD5 := hide hd5; have hr := (cells1 H6.out.rv).1; have hf := (cells1 H6.out.rv).2; clear ht5 hd5))
      obtain ⟨F1, F2⟩ := H5.out.fin H6.out HT5.out (.slice a5 d5.length c5)
      refine bodyPost_ret (v := .agg #[.slice a5 d5.length c5]) (by simp [results, Try.results28, go_sem, hr]) rfl ⟨_, d5, rfl, F1, by rw [HF.out, HD5.out]; exact tdo_alike rfl o _ _ _ _, F2⟩
end Go.Proofs.Ytcpgkalafkhlgae.OpR
namespace Go.Proofs.Ytcpgkalafkhlgae.OpR
set_option linter.unusedVariables false

/-- Where an op belongs: behind those that are ahead of it. -/
def place (out : List OpV) (o : OpV) : Nat := (out.takeWhile (fun x => ahead x o)).length
theorem place_le (out : List OpV) (o : OpV) : place out o ≤ out.length := (List.takeWhile_sublist _).length_le
theorem place_eq {out : List OpV} {o : OpV} {k : Nat} (hk : k ≤ out.length) (h1 : ∀ j (h : j < out.length), j < k → ahead out[j] o = true) (h2 : ∀ h : k < out.length, ahead out[k] o = false) : place out o = k := by
  unfold place
  induction out generalizing k with
  | nil => simp at hk; simp [hk]
  | cons x r ih =>
    cases k with
    | zero =>
      have := h2 (by simp)
      simp at this
      simp [this]
    | succ k =>
      have hx := h1 0 (by simp) (by omega)
      simp at hx
      simp only [List.takeWhile_cons, hx, if_true, List.length_cons]
      rw [ih (k := k) (by simpa using hk) (fun j h hj => h1 (j + 1) (by simpa using h) (by omega)) (fun h => h2 (by simpa using h))]
/-- One op more: none where another op has its stamp. -/
def addOne (s : List OpV × Int) (o : OpV) : Option (List OpV × Int) :=
  match s.1[place s.1 o]? with
  | some x => if stamp x o = true then (if sameOp x o = true then some s else none) else some (s.1.take (place s.1 o) ++ o :: s.1.drop (place s.1 o), s.2 + 1)
  | none => some (s.1.take (place s.1 o) ++ o :: s.1.drop (place s.1 o), s.2 + 1)
def addAll (s : List OpV × Int) : List OpV → Option (List OpV × Int)
  | [] => some s
  | o :: r => (addOne s o).bind fun s' => addAll s' r
theorem addAll_snoc (s : List OpV × Int) (l : List OpV) (o : OpV) : addAll s (l ++ [o]) = (addAll s l).bind fun s' => addOne s' o := by
  induction l generalizing s with
  | nil => show (addOne s o).bind (fun s' => some s') = addOne s o; cases addOne s o <;> rfl
  | cons x r ih =>
    show (addOne s x).bind (fun s' => addAll s' (r ++ [o])) = ((addOne s x).bind fun s' => addAll s' r).bind fun s' => addOne s' o
    cases addOne s x with
    | none => rfl
    | some s' => exact ih s'
theorem addAll_stuck (s : List OpV × Int) (l r : List OpV) (h : addAll s l = none) : addAll s (l ++ r) = none := by
  induction l generalizing s with
  | nil => cases h
  | cons x l ih =>
    have h' : (addOne s x).bind (fun s' => addAll s' l) = none := h
    show (addOne s x).bind (fun s' => addAll s' (l ++ r)) = none
    cases hx : addOne s x with
    | none => rfl
    | some s' => rw [hx] at h'; exact ih s' h'
theorem addOne_there {s : List OpV × Int} {o : OpV} {k : Nat} (hp : place s.1 o = k) (h : k < s.1.length) (hs : stamp s.1[k] o = true) (he : s.1[k] = o) : addOne s o = some s := by
  unfold addOne
  rw [hp, List.getElem?_eq_getElem h]
  show (if stamp s.1[k] o = true then (if sameOp s.1[k] o = true then some s else none) else _) = _
  rw [if_pos hs, if_pos (same_true he)]
theorem addOne_wrong {s : List OpV × Int} {o : OpV} {k : Nat} (hp : place s.1 o = k) (h : k < s.1.length) (hs : stamp s.1[k] o = true) (he : ¬ s.1[k] = o) : addOne s o = none := by
  unfold addOne
  rw [hp, List.getElem?_eq_getElem h]
  show (if stamp s.1[k] o = true then (if sameOp s.1[k] o = true then some s else none) else _) = _
  rw [if_pos hs, if_neg (fun e => he ((same_iff _ _).1 e))]
theorem addOne_new {s : List OpV × Int} {o : OpV} {k : Nat} (hp : place s.1 o = k) (h : ∀ h : k < s.1.length, stamp s.1[k] o = false) : addOne s o = some (s.1.take k ++ o :: s.1.drop k, s.2 + 1) := by
  unfold addOne
  rw [hp]
  cases hx : s.1[k]? with
  | none => rfl
  | some x =>
    obtain ⟨hk, rfl⟩ := List.getElem?_eq_some_iff.1 hx
    simp only [h hk]
    rfl
theorem addOne_len {s s' : List OpV × Int} {o : OpV} (h : addOne s o = some s') : s'.1.length ≤ s.1.length + 1 := by
  unfold addOne at h
  have hp := place_le s.1 o
  have hlen : (s.1.take (place s.1 o) ++ o :: s.1.drop (place s.1 o)).length = s.1.length + 1 := by simp; omega
  split at h
  · split at h
    · split at h
      · cases h; omega
      · cases h
    · cases h; exact Nat.le_of_eq hlen
  · cases h; exact Nat.le_of_eq hlen
end Go.Proofs.Ytcpgkalafkhlgae.OpR
