/- Proves what impl's (nodeMap).do does to a map of nodes. What is known of trees that come in as arguments. What is asked of trees doesn't hang on where their props lie. Proves what impl.TreeRight tells. A deed done to a tree: what becomes of its nodes, and that the tree stays right. Plain mathematics. -/
import Derived.Test.YtfkgmkcndchkjaaGreatDoorMgA
import Derived.Test.YtfkgmkcndchkjaaGreatDoorMgB
import Derived.BigRegion
import Derived.RegionTactic
import Derived.ChangeAlike
import Derived.Test.YtfkgmkcndchkjaaGreatDoorCameOp
namespace Go.Proofs.YtfkgmkcndchkjaaGreatDoor.OpR
open Go.ChangeShapes Go.WideShapes Go.ChangeAt Go.RowKit
set_option linter.unusedVariables false

/-- What stands at a number, and whether there is one. -/
def Was (m : List (Int × NodG)) (x : Int) (n : NodG) (there : Bool) : Prop := (kvAt m x = some n ∧ there = true) ∨ (kvAt m x = none ∧ n = NodG.zero ∧ there = false)
theorem wpList_look_any (w : World) {ops : Array Oper} {rest : List Oper} {o : Oper} {a : Act} {Q : Exit → Act → World → Prop} (hg : o.guard = none) (m x : Operand) (hop : o.op = Op.lookup 138 m x true) (B : Nat) (l : List (Int × NodG)) (hm : a.eval m = .map (some B)) (hM : MapAt w B l)
    (key : Int) (hk : -9223372036854775808 ≤ key ∧ key ≤ 9223372036854775807) (hx : a.eval x = .int .i64 key) (n : NodG) (there : Bool) (hn : Was l key n there)
    (hK : wpList Tryz.prog ops Q rest (a.put o.dst (.tuple #[.agg #[.int .i64 n.id, .int .i64 n.parent, .string n.name, .slice n.pao n.props.length n.pcap], .bool there])) w) :
    wpList Tryz.prog ops Q (o :: rest) a w := by
  rcases hn with ⟨h1, rfl⟩ | ⟨h1, rfl, rfl⟩
  · exact wpList_look_some w hg m x hop B l hm hM key hk hx n h1 hK
  · exact wpList_look_none w hg m x hop B l hm hM key hk hx h1 hK
def backM (m : List (Int × NodG)) (x : Int) (n : NodG) (there : Bool) : List (Int × NodG) := if there then kvPut m x n else kvDel m x
theorem back_is {m : List (Int × NodG)} {x : Int} {n n' : NodG} {there : Bool} (hr : RiseK m) (h : Was m x n there) : backM (kvPut m x n') x n there = m := by
  rcases h with ⟨h1, rfl⟩ | ⟨h1, _, rfl⟩
  · exact back_some hr h1
  · exact back_none h1
theorem grown_below {w w' : World} (B : Nat) (h : Below w.heap.size w w') : w.grownBy w' (some B) := ⟨h.os, h.tape, h.output, h.size, fun k hk _ => h.block k hk⟩

set_option maxRecDepth 100000 in
set_option maxHeartbeats 400000 in
theorem takeBack_any (m : List (Int × NodG)) (B : Nat) (x : Int) (n : NodG) (there : Bool) (w : World) (hx : In64 x) (hl : m.length < maxLen) (hM : MapAt w B m) :
    Calls Tryz.prog 164 #[.map (some B), .int .i64 x, n.agg, .bool there] w fun e w' => (∃ v, e = .returned v) ∧ MapAt w' B (backM m x n there) ∧ w.grownBy w' (some B) := by
  have HM := hide (hM.stays ((Below.refl _ _).alloc (Nat.le_refl _) (.cells #[.int .i64 n.id, .int .i64 n.parent, .string n.name, .slice n.pao n.props.length n.pcap] 120)))
  have HG := hide (grown_below B ((Below.refl w.heap.size w).alloc (Nat.le_refl _) (.cells #[.int .i64 n.id, .int .i64 n.parent, .string n.name, .slice n.pao n.props.length n.pcap] 120)))
  have HX := hide hx
  have HL := hide hl
  clear hM hx hl
  unfold NodG.agg
  cases there
  · go_enter Tryz.func164, Tryz.ntmps164
    go_wp2_with (first | (at_delete; refine wpList_del_node _ rfl _ _ rfl B m rfl HM.out x HX.out rfl ?_; intro w1 hM1 ht1) | go_in)
    go_end0
    exact ⟨⟨_, rfl⟩, hM1, HG.out.trans ht1.grown⟩
  · go_enter Tryz.func164, Tryz.ntmps164
    go_wp2_with (first | (at_mapUpdate; refine wpList_put_node _ rfl _ _ _ rfl B m rfl HM.out HL.out x HX.out rfl n rfl ?_; intro w1 hM1 ht1) | go_in)
    go_end0
    exact ⟨⟨_, rfl⟩, hM1, HG.out.trans ht1.grown⟩

/-- The variables of do: the op, the node as it was, the node as it is to be. -/
structure DoV (w c : World) (B : Nat) (o : OpV) (n k : NodG) (kd : Int) : Prop where
  grown : w.grownBy c (some B)
  op : c.heap[w.heap.size]? = some (.cells #[.int .i64 o.time, .int .i64 o.repl, .int .i64 kd, .int .i64 o.node, .int .i64 o.parent, .string o.name, .string o.value] 30 (0, 0))
  was : c.heap[w.heap.size + 1]? = some (.cells #[.int .i64 n.id, .int .i64 n.parent, .string n.name, .slice n.pao n.props.length n.pcap] 120 (0, 0))
  now : c.heap[w.heap.size + 1 + 1]? = some (.cells #[.int .i64 k.id, .int .i64 k.parent, .string k.name, .slice k.pao k.props.length k.pcap] 120 (0, 0))
theorem DoV.lt {w c : World} {B : Nat} {o : OpV} {n k : NodG} {kd : Int} (h : DoV w c B o n k kd) : w.heap.size + 1 + 1 < c.heap.size := (Array.getElem?_eq_some_iff.1 h.now).1
theorem DoV.step {w c c' : World} {B : Nat} {o : OpV} {n k : NodG} {kd : Int} (h : DoV w c B o n k kd) (hb : Below c.heap.size c c') : DoV w c' B o n k kd :=
  have hl := h.lt
  ⟨h.grown.trans (grown_below B hb), (hb.block _ (by omega)).trans h.op, (hb.block _ (by omega)).trans h.was, (hb.block _ (by omega)).trans h.now⟩
theorem DoV.turn {w c c' : World} {B : Nat} {o : OpV} {n k : NodG} {kd : Int} (h : DoV w c B o n k kd) (hB : B < w.heap.size) (ht : c.grownBy c' (some B)) : DoV w c' B o n k kd :=
  have hl := h.lt
  ⟨h.grown.trans ht, (ht.block _ (by omega) (by simp; omega)).trans h.op, (ht.block _ (by omega) (by simp; omega)).trans h.was, (ht.block _ (by omega) (by simp; omega)).trans h.now⟩
theorem DoV.moved {w c : World} {B : Nat} {o : OpV} {n k : NodG} {kd : Int} (h : DoV w c B o n k kd) (x y : Int) (s : ByteArray) :
    DoV w (((c.setCell ⟨w.heap.size + 1 + 1, 0, none⟩ (.int .i64 x)).setCell ⟨w.heap.size + 1 + 1, 1, none⟩ (.int .i64 y)).setCell ⟨w.heap.size + 1 + 1, 2, none⟩ (.string s)).drew B o n ⟨x, y, s, k.props, k.pao, k.pcap⟩ kd := by
  have hs : (((c.setCell ⟨w.heap.size + 1 + 1, 0, none⟩ (.int .i64 x)).setCell ⟨w.heap.size + 1 + 1, 1, none⟩ (.int .i64 y)).setCell ⟨w.heap.size + 1 + 1, 2, none⟩ (.string s)).heap.size = c.heap.size := by simp [World.setCell]
  have ho : ∀ b, b ≠ w.heap.size + 1 + 1 → (((c.setCell ⟨w.heap.size + 1 + 1, 0, none⟩ (.int .i64 x)).setCell ⟨w.heap.size + 1 + 1, 1, none⟩ (.int .i64 y)).setCell ⟨w.heap.size + 1 + 1, 2, none⟩ (.string s)).heap[b]? = c.heap[b]? := fun b hb => by
    rw [Below.heap_setCell _ _ _ _ hb, Below.heap_setCell _ _ _ _ hb, Below.heap_setCell _ _ _ _ hb]
  refine ⟨⟨h.grown.os, h.grown.tape, h.grown.output, Nat.le_trans h.grown.size (Nat.le_of_eq hs.symm), fun b hb hne => ?_⟩, (ho _ (by omega)).trans h.op, (ho _ (by omega)).trans h.was, ?_⟩
  · exact (ho b (by omega)).trans (h.grown.block b hb hne)
  · exact set_block (set_block (set_block h.now 0 (.int .i64 x)) 1 (.int .i64 y)) 2 (.string s)
theorem cells7 {w : World} {g : Nat} {v0 v1 v2 v3 v4 v5 v6 : Value} {T : TypeId} (h : w.heap[g]? = some (.cells #[v0, v1, v2, v3, v4, v5, v6] T (0, 0))) :
    w.cell? ⟨g, 0, none⟩ = some v0 ∧ w.cell? ⟨g, 1, none⟩ = some v1 ∧ w.cell? ⟨g, 2, none⟩ = some v2 ∧ w.cell? ⟨g, 3, none⟩ = some v3 ∧ w.cell? ⟨g, 4, none⟩ = some v4 ∧ w.cell? ⟨g, 5, none⟩ = some v5 ∧ w.cell? ⟨g, 6, none⟩ = some v6 := by
  refine ⟨by simp [World.cell?, h], by simp [World.cell?, h], by simp [World.cell?, h], by simp [World.cell?, h], by simp [World.cell?, h], by simp [World.cell?, h], by simp [World.cell?, h]⟩
theorem do_vars (w : World) (B : Nat) (o : OpV) (n : NodG) (kd : Int) : DoV w (((w.alloc (.cells #[.int .i64 o.time, .int .i64 o.repl, .int .i64 kd, .int .i64 o.node, .int .i64 o.parent, .string o.name, .string o.value] 30)).alloc (.cells #[.int .i64 n.id, .int .i64 n.parent, .string n.name, .slice n.pao n.props.length n.pcap] 120)).alloc (.cells #[.int .i64 n.id, .int .i64 n.parent, .string n.name, .slice n.pao n.props.length n.pcap] 120)) B o n n kd :=
  ⟨grown_below B ((((Below.refl _ _).alloc (Nat.le_refl _) _).alloc (by simp) _).alloc (by simp; omega) _), by
    rw [Below.heap_alloc _ _ _ (by simp; omega), Below.heap_alloc _ _ _ (by simp)]; exact heap_alloc_new w _, mid3 _ _ _ _, last3 _ _ _ _⟩
/-- What do leaves. -/
def doRes (m : List (Int × NodG)) (x : Int) (k n : NodG) (there : Bool) : List (Int × NodG) := if decide ((kvPut m x k).length ≤ 150) && holdsB (kvPut m x k) k then kvPut m x k else backM (kvPut m x k) x n there
theorem put_le (m : List (Int × NodG)) (x : Int) (n : NodG) : (kvPut m x n).length ≤ m.length + 1 := by
  unfold kvPut kvDel
  rw [kvIns_len]
  have := List.length_filter_le (fun p : Int × NodG => !decide (p.1 = x)) m
  omega
theorem do_map {w : World} {B : Nat} {m : List (Int × NodG)} (h : MapAt w B m) (o : OpV) (n : NodG) (kd : Int) : MapAt (((w.alloc (.cells #[.int .i64 o.time, .int .i64 o.repl, .int .i64 kd, .int .i64 o.node, .int .i64 o.parent, .string o.name, .string o.value] 30)).alloc (.cells #[.int .i64 n.id, .int .i64 n.parent, .string n.name, .slice n.pao n.props.length n.pcap] 120)).alloc (.cells #[.int .i64 n.id, .int .i64 n.parent, .string n.name, .slice n.pao n.props.length n.pcap] 120)) B m :=
  h.stays ((((Below.refl _ _).alloc (Nat.le_refl _) _).alloc (by simp) _).alloc (by simp; omega) _)
theorem MapAt.moved {c : World} {B : Nat} {m : List (Int × NodG)} (h : MapAt c B m) (g : Nat) (hg : B ≠ g) (x y z : Value) : MapAt (((c.setCell ⟨g, 0, none⟩ x).setCell ⟨g, 1, none⟩ y).setCell ⟨g, 2, none⟩ z).drew B m := by
  refine h.block ?_
  show (((c.setCell ⟨g, 0, none⟩ x).setCell ⟨g, 1, none⟩ y).setCell ⟨g, 2, none⟩ z).heap[B]? = _
  rw [Below.heap_setCell _ _ _ _ hg, Below.heap_setCell _ _ _ _ hg, Below.heap_setCell _ _ _ _ hg]
set_option maxRecDepth 100000 in
set_option maxHeartbeats 1000000 in
theorem doMove_any (m : List (Int × NodG)) (B : Nat) (o : OpV) (n : NodG) (there : Bool) (w : World) (hk : o.kind = 1) (hx : In64 o.node) (hW : Was m o.node n there) (hl : m.length ≤ 150) (hM : MapAt w B m)
    (hho : ∀ W, MapAt W B (kvPut m o.node ⟨o.node, o.parent, o.name, n.props, n.pao, n.pcap⟩) → w.grownBy W (some B) → Calls Tryz.prog 163 #[.map (some B), .agg #[.int .i64 o.node, .int .i64 o.parent, .string o.name, .slice n.pao n.props.length n.pcap]] W fun e w' => e = .returned (.bool (holdsB (kvPut m o.node ⟨o.node, o.parent, o.name, n.props, n.pao, n.pcap⟩) ⟨o.node, o.parent, o.name, n.props, n.pao, n.pcap⟩)) ∧ Below W.heap.size W w') :
    Calls Tryz.prog 142 #[.map (some B), o.agg] w fun e w' => (∃ v, e = .returned v) ∧ MapAt w' B (doRes m o.node ⟨o.node, o.parent, o.name, n.props, n.pao, n.pcap⟩ n there) ∧ w.grownBy w' (some B) := by
  have HM := hide hM
  have HX := hide hx
  have HW := hide hW
  have HH := hide hho
  have hBw := hM.lt
  have HL := hide (put_le m o.node ⟨o.node, o.parent, o.name, n.props, n.pao, n.pcap⟩)
  clear hx hW hho
  unfold OpV.agg
  by_cases hlen : (kvPut m o.node ⟨o.node, o.parent, o.name, n.props, n.pao, n.pcap⟩).length ≤ 150
  · have hlen' : decide ((150 : Int) < ((kvPut m o.node ⟨o.node, o.parent, o.name, n.props, n.pao, n.pcap⟩).length : Int)) = false := by simp; omega
    cases hok : holdsB (kvPut m o.node ⟨o.node, o.parent, o.name, n.props, n.pao, n.pcap⟩) ⟨o.node, o.parent, o.name, n.props, n.pao, n.pcap⟩
    · have HIF : Hid (doRes m o.node ⟨o.node, o.parent, o.name, n.props, n.pao, n.pcap⟩ n there = backM (kvPut m o.node ⟨o.node, o.parent, o.name, n.props, n.pao, n.pcap⟩) o.node n there) := ⟨by simp [doRes, hok]⟩
      go_enter Tryz.func142, Tryz.ntmps142
      go_wp2_with (first | (at_lookup; refine wpList_look_any _ rfl _ _ rfl B m rfl (HM.out.stays ((Below.refl _ _).alloc (Nat.le_refl _) _)) o.node HX.out rfl n there HW.out ?_) | go_in)
      obtain ⟨X, hX⟩ : ∃ X, ((w.alloc (.cells #[.int .i64 o.time, .int .i64 o.repl, .int .i64 1, .int .i64 o.node, .int .i64 o.parent, .string o.name, .string o.value] 30)).alloc (.cells #[.int .i64 n.id, .int .i64 n.parent, .string n.name, .slice n.pao n.props.length n.pcap] 120)).alloc (.cells #[.int .i64 n.id, .int .i64 n.parent, .string n.name, .slice n.pao n.props.length n.pcap] 120) = X := ⟨_, rfl⟩
      have hV := do_vars w B o n 1
      have hMX := do_map hM o n 1
      rw [hX] at hV hMX ⊢
      have HMX := hide hMX
      clear hX hMX
      have HV := hide hV
      obtain ⟨o0, o1, o2, o3, o4, o5, o6⟩ := cells7 hV.op
      obtain ⟨n0, n1, n2, n3, f0, f1, f2, f3⟩ := cells4 hV.now
      clear hV
      go_region
      clear o0 o1 o2 o3 o4 o5 o6 n0 n1 n2 n3 f0 f1 f2 f3
      have hV := HV.out.moved o.node o.parent o.name
      have hMY := HMX.out.moved (w.heap.size + 1 + 1) (by omega) (.int .i64 o.node) (.int .i64 o.parent) (.string o.name)
      obtain ⟨Y, hY⟩ : ∃ Y, (((X.setCell ⟨w.heap.size + 1 + 1, 0, none⟩ (.int .i64 o.node)).setCell ⟨w.heap.size + 1 + 1, 1, none⟩ (.int .i64 o.parent)).setCell ⟨w.heap.size + 1 + 1, 2, none⟩ (.string o.name)).drew = Y := ⟨_, rfl⟩
      rw [hY] at hV hMY ⊢
      have HVY := hide hV
      have HMY := hide hMY
      obtain ⟨o0, o1, o2, o3, o4, o5, o6⟩ := cells7 hV.op
      obtain ⟨n0, n1, n2, n3, _, _, _, _⟩ := cells4 hV.now
      clear hY hV hMY HV HMX
      go_wp2_with (first | (at_mapUpdate; refine wpList_put_node _ rfl _ _ _ rfl B m rfl HMY.out (by unfold maxLen; omega) o.node HX.out rfl ⟨o.node, o.parent, o.name, n.props, n.pao, n.pcap⟩ rfl ?_; intro Z hMZ htZ; have hVZ := HVY.out.turn hBw htZ.grown; have HVZ := hide hVZ; have HMZ := hide hMZ; clear o0 o1 o2 o3 o4 o5 o6 n0 n1 n2 n3 htZ; obtain ⟨o0, o1, o2, o3, o4, o5, o6⟩ := cells7 hVZ.op; obtain ⟨n0, n1, n2, n3, _, _, _, _⟩ := cells4 hVZ.now; obtain ⟨s0, s1, s2, s3, _, _, _, _⟩ := cells4 hVZ.was; clear hVZ hMZ) | (at_len; refine wpList_len_nodes _ rfl _ rfl B _ rfl HMZ.out ?_) | (go_at_call 163; refine (HH.out Z HMZ.out HVZ.out.grown).mono ?_; rintro e w5 ⟨rfl, hb5⟩; rw [hok]; have hV5 := HVZ.out.step hb5; have HV5 := hide hV5; have HM5 := hide (HMZ.out.stays hb5); clear o0 o1 o2 o3 o4 o5 o6 n0 n1 n2 n3 s0 s1 s2 s3; obtain ⟨o0, o1, o2, o3, o4, o5, o6⟩ := cells7 hV5.op; obtain ⟨s0, s1, s2, s3, _, _, _, _⟩ := cells4 hV5.was; clear hV5 hb5) | (go_at_call 164; refine (takeBack_any _ B o.node n there _ HX.out (by have := HL.out; unfold maxLen; omega) HM5.out).mono ?_; rintro e w6 ⟨⟨v6, rfl⟩, hM6, hg6⟩) | go_in)
      go_end0
      exact ⟨⟨_, rfl⟩, by rw [HIF.out]; exact hM6, HV5.out.grown.trans hg6⟩
    · have HIF : Hid (doRes m o.node ⟨o.node, o.parent, o.name, n.props, n.pao, n.pcap⟩ n there = kvPut m o.node ⟨o.node, o.parent, o.name, n.props, n.pao, n.pcap⟩) := ⟨by simp [doRes, hlen, hok]⟩
      go_enter Tryz.func142, Tryz.ntmps142
      go_wp2_with (first | (at_lookup; refine wpList_look_any _ rfl _ _ rfl B m rfl (HM.out.stays ((Below.refl _ _).alloc (Nat.le_refl _) _)) o.node HX.out rfl n there HW.out ?_) | go_in)
      obtain ⟨X, hX⟩ : ∃ X, ((w.alloc (.cells #[.int .i64 o.time, .int .i64 o.repl, .int .i64 1, .int .i64 o.node, .int .i64 o.parent, .string o.name, .string o.value] 30)).alloc (.cells #[.int .i64 n.id, .int .i64 n.parent, .string n.name, .slice n.pao n.props.length n.pcap] 120)).alloc (.cells #[.int .i64 n.id, .int .i64 n.parent, .string n.name, .slice n.pao n.props.length n.pcap] 120) = X := ⟨_, rfl⟩
      have hV := do_vars w B o n 1
      have hMX := do_map hM o n 1
      rw [hX] at hV hMX ⊢
      have HMX := hide hMX
      clear hX hMX
      have HV := hide hV
      obtain ⟨o0, o1, o2, o3, o4, o5, o6⟩ := cells7 hV.op
      obtain ⟨n0, n1, n2, n3, f0, f1, f2, f3⟩ := cells4 hV.now
      clear hV
      go_region
      clear o0 o1 o2 o3 o4 o5 o6 n0 n1 n2 n3 f0 f1 f2 f3
      have hV := HV.out.moved o.node o.parent o.name
      have hMY := HMX.out.moved (w.heap.size + 1 + 1) (by omega) (.int .i64 o.node) (.int .i64 o.parent) (.string o.name)
      obtain ⟨Y, hY⟩ : ∃ Y, (((X.setCell ⟨w.heap.size + 1 + 1, 0, none⟩ (.int .i64 o.node)).setCell ⟨w.heap.size + 1 + 1, 1, none⟩ (.int .i64 o.parent)).setCell ⟨w.heap.size + 1 + 1, 2, none⟩ (.string o.name)).drew = Y := ⟨_, rfl⟩
      rw [hY] at hV hMY ⊢
      have HVY := hide hV
      have HMY := hide hMY
      obtain ⟨o0, o1, o2, o3, o4, o5, o6⟩ := cells7 hV.op
      obtain ⟨n0, n1, n2, n3, _, _, _, _⟩ := cells4 hV.now
      clear hY hV hMY HV HMX
      go_wp2_with (first | (at_mapUpdate; refine wpList_put_node _ rfl _ _ _ rfl B m rfl HMY.out (by unfold maxLen; omega) o.node HX.out rfl ⟨o.node, o.parent, o.name, n.props, n.pao, n.pcap⟩ rfl ?_; intro Z hMZ htZ; have hVZ := HVY.out.turn hBw htZ.grown; have HVZ := hide hVZ; have HMZ := hide hMZ; clear o0 o1 o2 o3 o4 o5 o6 n0 n1 n2 n3 htZ; obtain ⟨o0, o1, o2, o3, o4, o5, o6⟩ := cells7 hVZ.op; obtain ⟨n0, n1, n2, n3, _, _, _, _⟩ := cells4 hVZ.now; obtain ⟨s0, s1, s2, s3, _, _, _, _⟩ := cells4 hVZ.was; clear hVZ hMZ) | (at_len; refine wpList_len_nodes _ rfl _ rfl B _ rfl HMZ.out ?_) | (go_at_call 163; refine (HH.out Z HMZ.out HVZ.out.grown).mono ?_; rintro e w5 ⟨rfl, hb5⟩; rw [hok]; have hV5 := HVZ.out.step hb5; have HV5 := hide hV5; have HM5 := hide (HMZ.out.stays hb5); clear o0 o1 o2 o3 o4 o5 o6 n0 n1 n2 n3 s0 s1 s2 s3; obtain ⟨o0, o1, o2, o3, o4, o5, o6⟩ := cells7 hV5.op; obtain ⟨s0, s1, s2, s3, _, _, _, _⟩ := cells4 hV5.was; clear hV5 hb5) | go_in)
      go_end0
      exact ⟨⟨_, rfl⟩, by rw [HIF.out]; exact HM5.out, HV5.out.grown⟩
  · have hlen' : (150 : Int) < ((kvPut m o.node ⟨o.node, o.parent, o.name, n.props, n.pao, n.pcap⟩).length : Int) := by omega
    have HIF : Hid ((doRes m o.node ⟨o.node, o.parent, o.name, n.props, n.pao, n.pcap⟩ n there) = backM (kvPut m o.node ⟨o.node, o.parent, o.name, n.props, n.pao, n.pcap⟩) o.node n there) := ⟨by simp [doRes, hlen]⟩
    go_enter Tryz.func142, Tryz.ntmps142
    go_wp2_with (first | (at_lookup; refine wpList_look_any _ rfl _ _ rfl B m rfl (HM.out.stays ((Below.refl _ _).alloc (Nat.le_refl _) _)) o.node HX.out rfl n there HW.out ?_) | go_in)
    obtain ⟨X, hX⟩ : ∃ X, ((w.alloc (.cells #[.int .i64 o.time, .int .i64 o.repl, .int .i64 1, .int .i64 o.node, .int .i64 o.parent, .string o.name, .string o.value] 30)).alloc (.cells #[.int .i64 n.id, .int .i64 n.parent, .string n.name, .slice n.pao n.props.length n.pcap] 120)).alloc (.cells #[.int .i64 n.id, .int .i64 n.parent, .string n.name, .slice n.pao n.props.length n.pcap] 120) = X := ⟨_, rfl⟩
    have hV := do_vars w B o n 1
    have hMX := do_map hM o n 1
    rw [hX] at hV hMX ⊢
    have HMX := hide hMX
    clear hX hMX
    have HV := hide hV
    obtain ⟨o0, o1, o2, o3, o4, o5, o6⟩ := cells7 hV.op
    obtain ⟨n0, n1, n2, n3, f0, f1, f2, f3⟩ := cells4 hV.now
    clear hV
    go_region
    clear o0 o1 o2 o3 o4 o5 o6 n0 n1 n2 n3 f0 f1 f2 f3
    have hV := HV.out.moved o.node o.parent o.name
    have hMY := HMX.out.moved (w.heap.size + 1 + 1) (by omega) (.int .i64 o.node) (.int .i64 o.parent) (.string o.name)
    obtain ⟨Y, hY⟩ : ∃ Y, (((X.setCell ⟨w.heap.size + 1 + 1, 0, none⟩ (.int .i64 o.node)).setCell ⟨w.heap.size + 1 + 1, 1, none⟩ (.int .i64 o.parent)).setCell ⟨w.heap.size + 1 + 1, 2, none⟩ (.string o.name)).drew = Y := ⟨_, rfl⟩
    rw [hY] at hV hMY ⊢
    have HVY := hide hV
    have HMY := hide hMY
    obtain ⟨o0, o1, o2, o3, o4, o5, o6⟩ := cells7 hV.op
    obtain ⟨n0, n1, n2, n3, _, _, _, _⟩ := cells4 hV.now
    clear hY hV hMY HV HMX
    go_wp2_with (first | (at_mapUpdate; refine wpList_put_node _ rfl _ _ _ rfl B m rfl HMY.out (by unfold maxLen; omega) o.node HX.out rfl ⟨o.node, o.parent, o.name, n.props, n.pao, n.pcap⟩ rfl ?_; intro Z hMZ htZ; have hVZ := HVY.out.turn hBw htZ.grown; have HVZ := hide hVZ; have HMZ := hide hMZ; clear o0 o1 o2 o3 o4 o5 o6 n0 n1 n2 n3 htZ; obtain ⟨o0, o1, o2, o3, o4, o5, o6⟩ := cells7 hVZ.op; obtain ⟨n0, n1, n2, n3, _, _, _, _⟩ := cells4 hVZ.now; obtain ⟨s0, s1, s2, s3, _, _, _, _⟩ := cells4 hVZ.was; clear hVZ hMZ) | (at_len; refine wpList_len_nodes _ rfl _ rfl B _ rfl HMZ.out ?_) | (go_at_call 164; refine (takeBack_any _ B o.node n there _ HX.out (by have := HL.out; unfold maxLen; omega) HMZ.out).mono ?_; rintro e w6 ⟨⟨v6, rfl⟩, hM6, hg6⟩) | go_in)
    go_end0
    exact ⟨⟨_, rfl⟩, by rw [HIF.out]; exact hM6, HVZ.out.grown.trans hg6⟩
end Go.Proofs.YtfkgmkcndchkjaaGreatDoor.OpR
namespace Go.Proofs.YtfkgmkcndchkjaaGreatDoor.OpR
open Go.ChangeShapes Go.WideShapes Go.ChangeAt Go.RowKit
set_option linter.unusedVariables false

theorem lit64 {x : Int} (h : (Lit.int .i64 x).wf = true) : In64 x := by
  simp [Lit.wf, IntKind.min, IntKind.max, IntKind.signed, IntKind.bits] at h
  unfold In64
  omega

section
variable {H : Type} {enc : TypeId × Value → H} {w : World} {base : Nat} {spare : Nat → Bool} {held : Bool}
end
/-- Props that a slice leads to. -/
def CameP (w : World) (ao : Option Addr) (l : List PropV) : Prop := l.length ≤ maxLen ∧ PropsAt w ao l ∧ SizedP maxLen l
theorem cell_lt {w : World} {b p : Nat} {v : Value} (h : w.cell? ⟨b, p, none⟩ = some v) : b < w.heap.size := by
  rcases Nat.lt_or_ge b w.heap.size with h' | h'
  · exact h'
  · simp [World.cell?, Array.getElem?_eq_none h'] at h
/-- A tree that comes in. -/
def CameTree (w : World) (ao : Option Addr) (l : List NodG) : Prop := l.length ≤ maxLen ∧ NodesAt w ao l ∧ (∀ n ∈ l, Sized1 maxLen n) ∧ Rng l
end Go.Proofs.YtfkgmkcndchkjaaGreatDoor.OpR
namespace Go.Proofs.YtfkgmkcndchkjaaGreatDoor.OpR
open Go.ChangeShapes Go.WideShapes Go.ChangeAt Go.RowKit
set_option linter.unusedVariables false

theorem nodOf_bare (l : List NodG) (x : Int) : nodOf (l.map NodG.bare) x = (nodOf l x).map NodG.bare := by
  unfold nodOf
  rw [List.find?_map]
  rfl
theorem par_bare (l : List NodG) : par (l.map NodG.bare) = par l := by
  funext x
  unfold par
  rw [nodOf_bare, Option.map_map]
  rfl
theorem nodOk_bare (l : List NodG) (n : NodG) : nodOk (l.map NodG.bare) n.bare = nodOk l n := by
  unfold nodOk
  rw [par_bare, List.length_map]
  rfl
theorem risesN_bare (l : List NodG) : risesN (l.map NodG.bare) = risesN l := by
  unfold risesN
  rw [List.length_map]
  congr 1
  funext i
  unfold nodRise
  by_cases h : i + 1 < l.length
  · rw [dif_pos (by simpa using h), dif_pos h]
    simp [NodG.bare]
  · rw [dif_neg (by simpa using h), dif_neg h]
theorem tree_bare (l : List NodG) : treeRight (l.map NodG.bare) = treeRight l := by
  unfold treeRight
  rw [risesN_bare, List.length_map, List.all_map]
  congr 2
  congr 1
  funext n
  exact nodOk_bare l n
theorem tree_alike {l d : List NodG} (h : d.map NodG.bare = l.map NodG.bare) : treeRight d = treeRight l := by
  rw [← tree_bare d, h, tree_bare]
theorem bare_mem {l d : List NodG} (h : d.map NodG.bare = l.map NodG.bare) {n : NodG} (hn : n ∈ d) : ∃ m ∈ l, n.bare = m.bare := by
  have : n.bare ∈ d.map NodG.bare := List.mem_map.2 ⟨n, hn, rfl⟩
  rw [h] at this
  obtain ⟨m, hm, e⟩ := List.mem_map.1 this
  exact ⟨m, hm, e.symm⟩
theorem bare_eq {n m : NodG} (h : n.bare = m.bare) : n.id = m.id ∧ n.parent = m.parent ∧ n.name = m.name ∧ n.props = m.props := by
  simp only [NodG.bare, NodG.mk.injEq, and_true] at h
  exact h
theorem bare_len {l d : List NodG} (h : d.map NodG.bare = l.map NodG.bare) : d.length = l.length := by simpa using congrArg List.length h
theorem rng_alike {l d : List NodG} (h : d.map NodG.bare = l.map NodG.bare) (hg : Rng l) : Rng d := fun n hn => by
  obtain ⟨m, hm, e⟩ := bare_mem h hn
  obtain ⟨e1, e2, _, _⟩ := bare_eq e
  rw [e1, e2]
  exact hg m hm
theorem sized_alike {k : Nat} {l d : List NodG} (h : d.map NodG.bare = l.map NodG.bare) (hg : ∀ n ∈ l, Sized1 k n) : ∀ n ∈ d, Sized1 k n := fun n hn => by
  obtain ⟨m, hm, e⟩ := bare_mem h hn
  obtain ⟨_, _, e3, e4⟩ := bare_eq e
  have := hg m hm
  unfold Sized1 at *
  rw [e3, e4]
  exact this
end Go.Proofs.YtfkgmkcndchkjaaGreatDoor.OpR
namespace Go.Proofs.YtfkgmkcndchkjaaGreatDoor.OpR
open Go.ChangeShapes Go.WideShapes Go.ChangeAt Go.RowKit
set_option linter.unusedVariables false

theorem holds_of (l : List NodG) (n : NodG) : holdsB (kvOf l) n = nodOkI l n := by
  unfold holdsB nodOkI
  rw [kvPar_of, kvOf_len]
theorem rngM_of {l : List NodG} (h : Rng l) : RngM (kvOf l) := fun p hp => by
  obtain ⟨n, hn, rfl⟩ := List.mem_map.1 hp
  exact (h n hn).2
theorem treeI_yes {l : List NodG} (h1 : l.length ≤ 150) (h2 : RisesN l) (h3 : ∀ n ∈ l, holdsB (kvOf l) n = true) : treeRight l = true := by
  unfold treeRight
  rw [← all_okI, risesN_yes h2, decide_eq_true h1, List.all_eq_true.2 fun n hn => by rw [← holds_of]; exact h3 n hn]
  rfl
theorem treeI_no {l : List NodG} {n : NodG} (hn : n ∈ l) (h : holdsB (kvOf l) n = false) : treeRight l = false := by
  refine Bool.eq_false_iff.2 fun ht => ?_
  unfold treeRight at ht
  rw [← all_okI, Bool.and_eq_true, Bool.and_eq_true, List.all_eq_true] at ht
  have := ht.2.2 n hn
  rw [← holds_of, h] at this
  cases this

set_option maxRecDepth 100000 in
set_option maxHeartbeats 1000000 in
theorem iTree_any (l : List NodG) (ao : Option Addr) (cap : Nat) (w : World) (hl : l.length ≤ 1048576) (hg : Rng l) (hA : NodesAt w ao l) (hS : ∀ n ∈ l, Sized1 1048576 n) :
    Calls Tryz.prog 144 #[.agg #[.slice ao l.length cap]] w fun e w' => e = .returned (.bool (treeRight l)) ∧ Below w.heap.size w w' := by
  have hri := fun W (hW : Below w.heap.size w W) => iRisesN_any l ao cap W (by unfold maxLen; omega) (hA.stays hW)
  have HA : Hid (NodesAt w ao l) := ⟨hA⟩
  have HS := hide hS
  have HG := hide hg
  have H1 := hide (Box1.start w (.slice ao l.length cap) 72)
  clear hA hS hg
  by_cases h150 : l.length ≤ 150
  · have h150' : decide ((150 : Int) < (l.length : Int)) = false := by simp; omega
    cases hr : risesN l
    · have HF : Hid (treeRight l = false) := ⟨tree_no fun h => by rw [risesN_yes h.2.1] at hr; cases hr⟩
      simp only [hr] at hri
      go_enter Tryz.func144, Tryz.ntmps144
      go_wp2_with (first | (go_at_call 170; refine (hri _ H1.out.below).mono ?_; rintro e w1 ⟨rfl, hb1⟩))
      go_ret
      exact ⟨ret_bool (by rw [HF.out]), (H1.out.step hb1).below⟩
    · have HR : Hid (RisesN l) := ⟨(risesN_iff l).1 hr⟩
      have hno := fun W (hW : Below w.heap.size w W) => nodesOf_any l ao cap W hl HR.out HG.out (HA.out.stays hW)
      simp only [hr] at hri
      have HNO := hide hno
      clear hno hr
      go_enter Tryz.func144, Tryz.ntmps144
      go_wp2_with (first | (go_at_call 170; refine (hri _ H1.out.below).mono ?_; rintro e w1 ⟨rfl, hb1⟩; have hbx1 := H1.out.step hb1; have H2 := hide hbx1; have hc1 := hbx1.cell; clear hri hbx1 hb1) | (go_at_call 107; refine (HNO.out _ H2.out.below).mono ?_; rintro e w2 ⟨B, rfl, hB, hM2, hb2⟩; have hbx2 := H2.out.step hb2; have H3 := hide hbx2; have HM := hide hM2; have hc2 := hbx2.cell; clear hc1 hbx2 hb2 hM2))
      clear hc2
      go_loopw [21] (fun i wr => ∃ k : Nat, k ≤ l.length ∧ i = .int .i64 k ∧ (∀ j (h : j < l.length), j < k → holdsB (kvOf l) l[j] = true) ∧ MapAt wr B (kvOf l) ∧ Box1 w wr w.heap.size (.slice ao l.length cap) 72) (fun i _ => l.length - (intOf i).toNat)
      case atStart => exact ⟨0, by omega, rfl, fun j h hj => by omega, HM.out, H3.out⟩
      case round =>
        obtain ⟨k, hk, rfl, hal, hM, hbx⟩ := hrel
        have HL := hide hal
        have HM' := hide hM
        have HB := hide hbx
        clear hal hM
        by_cases h : k < l.length
        · obtain ⟨b, off, rfl, hlt, ho, hp⟩ := HA.out k h
          obtain ⟨c0, c1, c2, c3⟩ := ho.block (w' := wr) (hbx.below.block b hlt)
          have hi0 : (0 : Int) ≤ (k : Int) := by omega
          have hi1 : (k : Int) < (l.length : Int) := by omega
          have hmem : l[k] ∈ l := List.getElem_mem h
          have hho := fun W (hW : Below wr.heap.size wr W) => holds_any (kvOf l) B l[k] W (by rw [kvOf_len]; exact hl) (rngM_of HG.out) (HG.out _ hmem).1 (HS.out _ hmem) ((hp.stays HB.out.below).stays hW) (HM'.out.stays hW)
          unfold NodG.agg at hho
          have HMem := hide hmem
          clear ho hp hbx hmem
          cases hh : holdsB (kvOf l) l[k]
          · have HF : Hid (treeRight l = false) := ⟨treeI_no HMem.out hh⟩
            simp only [hh] at hho
            go_wp2_with (first | (go_at_call 163; refine (hho _ ((Below.refl _ _).alloc (Nat.le_refl _) _)).mono ?_; rintro e w4 ⟨rfl, hb4⟩))
            go_ret
            exact ⟨ret_bool (by rw [HF.out]), ((HB.out.step ((Below.refl _ _).alloc (Nat.le_refl _) _)).step hb4).below⟩
          · have HH := hide hh
            simp only [hh] at hho
            clear hh
            go_wp2_with (first | (go_at_call 163; refine (hho _ ((Below.refl _ _).alloc (Nat.le_refl _) _)).mono ?_; rintro e w4 ⟨rfl, hb4⟩))
            go_roundw
            case rel =>
              refine ⟨k + 1, by omega, by go_num, fun j hj hjk => ?_, (HM'.out.stays ((Below.refl _ _).alloc (Nat.le_refl _) _)).stays hb4, (HB.out.step ((Below.refl _ _).alloc (Nat.le_refl _) _)).step hb4⟩
              rcases Nat.lt_or_ge j k with h' | h'
              · exact HL.out j hj h'
              · obtain rfl : j = k := by omega
                exact HH.out
            case measure => simp [intOf]; omega
        · obtain rfl : k = l.length := by omega
          have HF : Hid (treeRight l = true) := ⟨treeI_yes h150 HR.out fun n hn => by obtain ⟨j, hj, rfl⟩ := List.getElem_of_mem hn; exact HL.out j hj hj⟩
          go_wp2
          go_ret
          exact ⟨ret_bool (by rw [HF.out]), HB.out.below⟩
  · have HF : Hid (treeRight l = false) := ⟨tree_no fun h => h150 h.1⟩
    have h150' : (150 : Int) < (l.length : Int) := by omega
    clear hri
    go_enter Tryz.func144, Tryz.ntmps144
    go_wp2
    go_ret
    exact ⟨ret_bool (by rw [HF.out]), H1.out.below⟩
end Go.Proofs.YtfkgmkcndchkjaaGreatDoor.OpR
namespace Go.Proofs.YtfkgmkcndchkjaaGreatDoor.OpR
set_option linter.unusedVariables false

def moveN (o : OpV) (n : NodG) : NodG := ⟨o.node, o.parent, o.name, n.props, n.pao, n.pcap⟩
def setN (o : OpV) (n : NodG) (a : Option Addr) (c : Nat) : NodG := ⟨n.id, n.parent, n.name, setP ⟨o.name, o.value⟩ n.props, a, c⟩
def mayMove (l : List NodG) (o : OpV) : Bool := (placeB l o.parent && (!decide (o.parent = o.node) && !abF (par l) o.node (l.length + 1) o.parent)) && ((nodOf l o.node).isSome || decide (l.length < 150))
def maySet (n : NodG) (o : OpV) : Bool := hasKey n.props o.name || decide (n.props.length < 20)
/-- What a deed makes of nodes; where it makes props anew, they lie at a. -/
def tdo (l : List NodG) (o : OpV) (a : Option Addr) (c : Nat) : List NodG :=
  if o.kind = 1 then (if mayMove l o then putL l (moveN o ((nodOf l o.node).getD NodG.zero)) else l)
  else match nodOf l o.node with
    | none => l
    | some n => if maySet n o then putL l (setN o n a c) else l

/-! ### what a right op and a right tree say -/
structure OpOk (o : OpV) : Prop where
  node : 2 ≤ o.node ∧ o.node ≤ 1000000
  name : NameR.nmB o.name = true
  value : o.value.size ≤ 40
  kind : (o.kind = 1 ∧ 0 ≤ o.parent ∧ o.parent ≤ 1000000) ∨ o.kind = 2
theorem opOk_of {o : OpV} (h : opRight o = true) : OpOk o := by
  unfold opRight kindRight at h
  simp only [Bool.and_eq_true] at h
  obtain ⟨⟨⟨_, h1⟩, h2⟩, h3⟩ := h
  have h1' : 2 ≤ o.node ∧ o.node ≤ 1000000 := by simpa [isIn] using h1
  by_cases k1 : o.kind = 1
  · rw [if_pos k1, Bool.and_eq_true] at h3
    have h3' : 0 ≤ o.parent ∧ o.parent ≤ 1000000 := by simpa [isIn] using h3.1
    have hv : o.value.toList = [] := by simpa using h3.2
    have hz : o.value.size = 0 := by
      rw [ByteArray.toList_eq] at hv
      have := congrArg List.length hv
      simpa using this
    exact ⟨h1', h2, by omega, .inl ⟨k1, h3'⟩⟩
  · rw [if_neg k1] at h3
    by_cases k2 : o.kind = 2
    · rw [if_pos k2, Bool.and_eq_true] at h3
      have hv : (o.value.size : Int) ≤ 40 := by simpa using h3.2
      exact ⟨h1', h2, by omega, .inr k2⟩
    · rw [if_neg k2] at h3; cases h3
theorem OpOk.prop {o : OpV} (h : OpOk o) : propOk ⟨o.name, o.value⟩ = true := by
  have := h.value
  have h2 : (o.value.size : Int) ≤ 40 := by omega
  simp [propOk, h.name, h2]
structure NodOk (l : List NodG) (n : NodG) : Prop where
  id : isIn n.id 2 1000000 = true
  name : NameR.nmB n.name = true
  props : PropsOk n.props
  ends : endsF (par l) (l.length + 1) n.id = true
theorem nodOk_parts {l : List NodG} {n : NodG} (h : nodOk l n = true) : NodOk l n := by
  unfold nodOk at h
  rw [Bool.and_eq_true, Bool.and_eq_true, Bool.and_eq_true] at h
  exact ⟨h.1, h.2.1, (propsOk_iff _).1 h.2.2.1, h.2.2.2⟩
theorem NodOk.yes {l : List NodG} {n : NodG} (h : NodOk l n) : nodOk l n = true := by
  unfold nodOk
  rw [h.id, h.name, propsOk_yes h.props, h.ends]; rfl
theorem propsOk_none : PropsOk [] := ⟨by simp, by simp, by simp⟩
theorem was_props {l : List NodG} {x : Int} {n : NodG} {there : Bool} (ht : TreeR l) (h : Was (kvOf l) x n there) : PropsOk n.props := by
  rcases h with ⟨h1, _⟩ | ⟨_, rfl, _⟩
  · rw [kvAt_of] at h1
    exact (nodOk_parts (ht.2.2 n (nodOf_some h1).1)).props
  · exact propsOk_none
theorem was_of (l : List NodG) (x : Int) : Was (kvOf l) x ((nodOf l x).getD NodG.zero) (nodOf l x).isSome := by
  unfold Was
  rw [kvAt_of]
  cases nodOf l x with
  | none => exact .inr ⟨rfl, rfl, rfl⟩
  | some n => exact .inl ⟨rfl, rfl⟩

/-! ### impl's way -/
theorem put_par0 {l : List NodG} (ht : TreeR l) {n : NodG} (hn : 2 ≤ n.id) : par (putL l n) 0 = none ∧ par (putL l n) 1 = none := by
  obtain ⟨p0, p1⟩ := tree_par ht
  constructor
  · unfold par at *; rw [nodOf_put_other l n (by omega)]; exact p0
  · unfold par at *; rw [nodOf_put_other l n (by omega)]; exact p1
theorem doRes_move {l : List NodG} {o : OpV} (ht : TreeR l) (ho : OpOk o) (hk : o.kind = 1) (a : Option Addr) (c : Nat) :
    doRes (kvOf l) o.node (moveN o ((nodOf l o.node).getD NodG.zero)) ((nodOf l o.node).getD NodG.zero) (nodOf l o.node).isSome = kvOf (tdo l o a c) := by
  have hW := was_of l o.node
  have hpr := was_props ht hW
  have hid : (moveN o ((nodOf l o.node).getD NodG.zero)).id = o.node := rfl
  have hN : 2 ≤ (moveN o ((nodOf l o.node).getD NodG.zero)).id := ho.node.1
  have hlen : decide ((putL l (moveN o ((nodOf l o.node).getD NodG.zero))).length ≤ 150) = ((nodOf l o.node).isSome || decide (l.length < 150)) := by
    have h150 := ht.1
    cases e : nodOf l o.node with
    | none => rw [putL_len_none (by rw [← e]; rfl)]; simp; omega
    | some m => rw [putL_len_some ht.2.1 (m := m) e]; simp; omega
  have hends := put_ends ht hN
  obtain ⟨q0, q1⟩ := put_par0 ht hN
  rw [ends_ab q0 q1] at hends
  have hput : kvPut (kvOf l) o.node (moveN o ((nodOf l o.node).getD NodG.zero)) = kvOf (putL l (moveN o ((nodOf l o.node).getD NodG.zero))) := kvOf_put l (moveN o ((nodOf l o.node).getD NodG.zero))
  have hho : holdsB (kvOf (putL l (moveN o ((nodOf l o.node).getD NodG.zero)))) (moveN o ((nodOf l o.node).getD NodG.zero)) = (placeB l o.parent && (!decide (o.parent = o.node) && !abF (par l) o.node (l.length + 1) o.parent)) := by
    rw [holds_of]
    unfold nodOkI
    rw [hends]
    have h1 : isIn (moveN o ((nodOf l o.node).getD NodG.zero)).id 2 1000000 = true := by simpa [isIn, hid] using ho.node
    have h2 : NameR.nmB (moveN o ((nodOf l o.node).getD NodG.zero)).name = true := ho.name
    have h3 : propsOk (moveN o ((nodOf l o.node).getD NodG.zero)).props = true := propsOk_yes hpr
    rw [h1, h2, h3]; rfl
  have hback := back_is (riseK_of ht.2.1) hW (n' := moveN o ((nodOf l o.node).getD NodG.zero))
  unfold doRes tdo mayMove
  rw [hback, hput, hho, kvOf_len, hlen, if_pos hk, Bool.and_comm]
  split <;> rfl
theorem doRes_set {l : List NodG} {o : OpV} (ht : TreeR l) (ho : OpOk o) (hk : o.kind = 2) (a : Option Addr) (c : Nat) (n : NodG) (hn : (nodOf l o.node).getD NodG.zero = n) :
    doRes (kvOf l) o.node ⟨n.id, n.parent, n.name, mrgP (keepP ⟨o.name, o.value⟩ n.props) [⟨o.name, o.value⟩], a, c⟩ n (nodOf l o.node).isSome = kvOf (tdo l o a c) := by
  have hW := was_of l o.node
  rw [hn] at hW
  have hpr := was_props ht hW
  have hset : mrgP (keepP ⟨o.name, o.value⟩ n.props) [⟨o.name, o.value⟩] = setP ⟨o.name, o.value⟩ n.props := setP_mrg ⟨o.name, o.value⟩ (rise_pair hpr.2.2)
  have hback := back_is (riseK_of ht.2.1) hW (n' := setN o n a c)
  have hk1 : ¬ o.kind = 1 := by omega
  rw [hset]
  show doRes (kvOf l) o.node (setN o n a c) n (nodOf l o.node).isSome = kvOf (tdo l o a c)
  unfold doRes tdo
  rw [hback, if_neg hk1]
  cases e : nodOf l o.node with
  | none =>
    rw [e] at hn
    have hz : n = NodG.zero := hn.symm
    have hid : isIn (setN o n a c).id 2 1000000 = false := by rw [hz]; rfl
    have hno : holdsB (kvPut (kvOf l) o.node (setN o n a c)) (setN o n a c) = false := by unfold holdsB; rw [hid]; rfl
    rw [hno, Bool.and_false]; rfl
  | some m =>
    rw [e] at hn
    have hm : m = n := hn
    subst hm
    obtain ⟨hmem, hmid⟩ := nodOf_some e
    have hOk := nodOk_parts (ht.2.2 m hmem)
    have hid : (setN o m a c).id = o.node := hmid
    have hput : kvPut (kvOf l) o.node (setN o m a c) = kvOf (putL l (setN o m a c)) := by rw [← kvOf_put, hid]
    have e' : nodOf l (setN o m a c).id = some m := by rw [hid]; exact e
    have hpar : par (putL l (setN o m a c)) = par l := put_same e' rfl
    have hlen := putL_len_some ht.2.1 e'
    obtain ⟨p0, p1⟩ := tree_par ht
    have hho : holdsB (kvOf (putL l (setN o m a c))) (setN o m a c) = maySet m o := by
      rw [holds_of]
      unfold nodOkI
      rw [hpar, hlen, ← ends_ab p0 p1]
      have h1 : isIn (setN o m a c).id 2 1000000 = true := hOk.id
      have h2 : NameR.nmB (setN o m a c).name = true := hOk.name
      have h3 : propsOk (setN o m a c).props = maySet m o := propsOk_set hOk.props ho.prop
      have h4 : endsF (par l) (l.length + 1) (setN o m a c).id = true := hOk.ends
      rw [h1, h2, h3, h4]; simp
    have h150 : decide ((putL l (setN o m a c)).length ≤ 150) = true := by rw [hlen]; simpa using ht.1
    rw [hput, hho, kvOf_len, h150, Bool.true_and]
    show (if maySet m o = true then _ else _) = kvOf (if maySet m o = true then _ else _)
    split <;> rfl

/-! ### a right tree stays right -/
theorem ends_through {f g : Int → Option Int} {x : Int} (hfg : ∀ z, z ≠ x → f z = g z) {j : Nat} (hx : endsF g j x = true) : ∀ (k : Nat) (y : Int), endsF f k y = true → ∃ i, endsF g i y = true
  | 0, y, h => by cases h
  | k + 1, y, h => by
    by_cases hy : y = x
    · exact ⟨j, by rw [hy]; exact hx⟩
    · obtain ⟨i, hi, hc⟩ := ends_cases h
      rcases hc with hl | ⟨h0, h1, z, hz, hez⟩
      · exact ⟨1, ends_low hl⟩
      · have hki : i = k := by omega
        subst hki
        obtain ⟨q, hq⟩ := ends_through hfg hx i z hez
        exact ⟨q + 1, by rw [ends_step h0 h1 (by rw [← hfg y hy]; exact hz)]; exact hq⟩
theorem put_right {l : List NodG} (ht : TreeR l) {n : NodG} (h1 : isIn n.id 2 1000000 = true) (h2 : NameR.nmB n.name = true) (h3 : PropsOk n.props) (hl : (putL l n).length ≤ 150) (he : endsF (par (putL l n)) ((putL l n).length + 1) n.id = true) : TreeR (putL l n) := by
  have hn2 : 2 ≤ n.id := by have : 2 ≤ n.id ∧ n.id ≤ 1000000 := by simpa [isIn] using h1
                            exact this.1
  have hfg : ∀ z, z ≠ n.id → par l z = par (putL l n) z := fun z hz => by unfold par; rw [nodOf_put_other l n hz]
  obtain ⟨q0, q1⟩ := put_par0 ht hn2
  have hdom : ∀ z y, par (putL l n) z = some y → z ∈ (putL l n).map NodG.id := fun z y hz => by
    unfold par at hz
    obtain ⟨m, hm, _⟩ := Option.map_eq_some_iff.1 hz
    obtain ⟨h1, h2⟩ := nodOf_some hm
    exact List.mem_map.2 ⟨m, h1, h2⟩
  refine ⟨hl, putL_rise ht.2.1 n, fun x hx => ?_⟩
  rcases putL_mem hx with rfl | hx
  · exact NodOk.yes ⟨h1, h2, h3, he⟩
  · have hOk := nodOk_parts (ht.2.2 x hx)
    obtain ⟨i, hi⟩ := ends_through hfg he _ _ hOk.ends
    exact NodOk.yes ⟨hOk.id, hOk.name, hOk.props, ends_short (putL l n).length _ ((putL l n).map NodG.id) (by simp) hdom q0 q1 hi⟩
theorem tdo_right {l : List NodG} {o : OpV} (ht : TreeR l) (ho : OpOk o) (a : Option Addr) (c : Nat) : TreeR (tdo l o a c) := by
  have hW := was_of l o.node
  have hpr := was_props ht hW
  unfold tdo
  by_cases hk : o.kind = 1
  · rw [if_pos hk]
    by_cases hm : mayMove l o = true
    · rw [if_pos hm]
      have hN : 2 ≤ (moveN o ((nodOf l o.node).getD NodG.zero)).id := ho.node.1
      have hm' := hm
      unfold mayMove at hm'
      rw [Bool.and_eq_true] at hm'
      have h150 := ht.1
      refine put_right ht (show isIn o.node 2 1000000 = true by simpa [isIn] using ho.node) ho.name hpr ?_ ((put_ends ht hN).trans hm'.1)
      cases e : nodOf l o.node with
      | none =>
        have := hm'.2
        rw [e] at this
        rw [putL_len_none (by rw [← e]; rfl)]
        simp at this
        omega
      | some m => rw [putL_len_some ht.2.1 (m := m) e]; exact h150
    · rw [if_neg hm]; exact ht
  · rw [if_neg hk]
    cases e : nodOf l o.node with
    | none => exact ht
    | some m =>
      show TreeR (if maySet m o = true then _ else _)
      by_cases hm : maySet m o = true
      · rw [if_pos hm]
        obtain ⟨hmem, hmid⟩ := nodOf_some e
        have hOk := nodOk_parts (ht.2.2 m hmem)
        have e' : nodOf l (setN o m a c).id = some m := by rw [show (setN o m a c).id = o.node from hmid]; exact e
        have hpar : par (putL l (setN o m a c)) = par l := put_same e' rfl
        have hlen := putL_len_some ht.2.1 e'
        have h3 : propsOk (setN o m a c).props = maySet m o := propsOk_set hOk.props ho.prop
        exact put_right ht hOk.id hOk.name ((propsOk_iff _).1 (h3.trans hm)) (by rw [hlen]; exact ht.1) (by rw [hpar, hlen]; exact hOk.ends)
      · rw [if_neg hm]; exact ht
theorem tdo_mem {l : List NodG} {o : OpV} {a : Option Addr} {c : Nat} {x : NodG} (h : x ∈ tdo l o a c) : x ∈ l ∨ (x = moveN o ((nodOf l o.node).getD NodG.zero) ∧ o.kind = 1) ∨ ∃ n, o.kind ≠ 1 ∧ nodOf l o.node = some n ∧ x = setN o n a c := by
  unfold tdo at h
  by_cases hk : o.kind = 1
  · rw [if_pos hk] at h
    split at h
    · rcases putL_mem h with rfl | h
      · exact .inr (.inl ⟨rfl, hk⟩)
      · exact .inl h
    · exact .inl h
  · rw [if_neg hk] at h
    cases e : nodOf l o.node with
    | none => rw [e] at h; exact .inl h
    | some m =>
      rw [e] at h
      change x ∈ (if maySet m o = true then _ else _) at h
      split at h
      · rcases putL_mem h with rfl | h
        · exact .inr (.inr ⟨m, hk, rfl, rfl⟩)
        · exact .inl h
      · exact .inl h
theorem kvIns_bare (x : Int) (n : NodG) : ∀ m : List (Int × NodG), (kvIns x n m).map (fun p => (p.1, p.2.bare)) = kvIns x n.bare (m.map fun p => (p.1, p.2.bare))
  | [] => rfl
  | q :: r => by
    rw [List.map_cons]
    unfold kvIns
    by_cases h : x < q.1
    · rw [if_pos h, if_pos h]; rfl
    · rw [if_neg h, if_neg h, List.map_cons, kvIns_bare x n r]
theorem kvDel_bare (x : Int) (m : List (Int × NodG)) : (kvDel m x).map (fun p => (p.1, p.2.bare)) = kvDel (m.map fun p => (p.1, p.2.bare)) x := by
  unfold kvDel
  rw [List.filter_map]
  rfl
theorem putL_bare (l : List NodG) (n : NodG) : (putL l n).map NodG.bare = putL (l.map NodG.bare) n.bare := by
  have h1 : (kvOf l).map (fun p => (p.1, p.2.bare)) = kvOf (l.map NodG.bare) := by simp [kvOf, NodG.bare]
  unfold putL
  show _ = (kvPut (kvOf (l.map NodG.bare)) n.id n.bare).map Prod.snd
  rw [← h1]
  unfold kvPut
  rw [← kvDel_bare, ← kvIns_bare, List.map_map, List.map_map]
  rfl
/-- Nothing hangs on where the props lie. -/
theorem tdo_bare (l : List NodG) (o : OpV) (a : Option Addr) (c : Nat) : (tdo l o a c).map NodG.bare = tdo (l.map NodG.bare) o none 0 := by
  unfold tdo
  have hm : mayMove (l.map NodG.bare) o = mayMove l o := by
    unfold mayMove placeB
    rw [par_bare, nodOf_bare, nodOf_bare]
    simp
  rw [hm, nodOf_bare]
  split
  · split
    · rw [putL_bare]
      cases nodOf l o.node <;> rfl
    · rfl
  · cases nodOf l o.node with
    | none => rfl
    | some n =>
      show List.map NodG.bare (if maySet n o = true then _ else _) = (if maySet n o = true then _ else _)
      split
      · rw [putL_bare]; rfl
      · rfl
theorem tdo_alike {l d : List NodG} (h : d.map NodG.bare = l.map NodG.bare) (o : OpV) (a b : Option Addr) (c e : Nat) : (tdo d o a c).map NodG.bare = (tdo l o b e).map NodG.bare := by
  rw [tdo_bare, tdo_bare, h]
/-- What TreeDo answers. -/
def treeDo (l : List NodG) (o : OpV) : List NodG := if treeRight l && opRight o then tdo l o none 0 else l
theorem treeDo_alike {l d : List NodG} (h : d.map NodG.bare = l.map NodG.bare) (o : OpV) : (treeDo d o).map NodG.bare = (treeDo l o).map NodG.bare := by
  unfold treeDo
  rw [tree_alike h]
  split
  · exact tdo_alike h o _ _ _ _
  · exact h
theorem tree_sized {l : List NodG} (ht : TreeR l) : ∀ n ∈ l, Sized1 1048576 n := fun n hn => by
  have hOk := nodOk_parts (ht.2.2 n hn)
  have h1 := (NameR.nmB_iff _).1 hOk.name
  refine ⟨by omega, by have := hOk.props.1; omega, fun p hp => ?_⟩
  have := hOk.props.2.1 p hp
  unfold propOk at this
  rw [Bool.and_eq_true, NameR.nmB_iff] at this
  have h3 : (p.value.size : Int) ≤ 40 := by simpa using this.2
  omega
theorem tree_rng {l : List NodG} (ht : TreeR l) : Rng l := fun n hn => by
  have hOk := nodOk_parts (ht.2.2 n hn)
  have h1 : 2 ≤ n.id ∧ n.id ≤ 1000000 := by simpa [isIn] using hOk.id
  refine ⟨⟨by omega, by omega⟩, ?_⟩
  have hpn : par l n.id = some n.parent := by unfold par; rw [nodOf_mem ht.2.1 hn]; rfl
  have he := hOk.ends
  rw [ends_step (by omega) (by omega) hpn] at he
  obtain ⟨j, _, hc⟩ := ends_cases he
  rcases hc with hl | ⟨h0, h1, z, hz, hez⟩
  · unfold In64; omega
  · unfold par at hz
    obtain ⟨m, hm, _⟩ := Option.map_eq_some_iff.1 hz
    obtain ⟨hmm, hid⟩ := nodOf_some hm
    have h2 : 2 ≤ m.id ∧ m.id ≤ 1000000 := by simpa [isIn] using (nodOk_parts (ht.2.2 m hmm)).id
    unfold In64; omega
end Go.Proofs.YtfkgmkcndchkjaaGreatDoor.OpR
