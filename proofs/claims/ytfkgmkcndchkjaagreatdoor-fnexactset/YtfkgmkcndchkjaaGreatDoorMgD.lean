/- Proves what spec.l03May tells of a right tree. Proves what impl's (nodeMap).do does to a map of nodes where a prop is set. Proves what impl's (nodeMap).do does to the nodes of a right tree, and what impl.TreeDo and impl.TreeOf answer. Proves what impl.TreeDo answers. Proves what impl.TreeOf answers. What a client answers (plain). Proves what impl.Above tells. Proves what impl's log tells of a deed that is to be put behind it. -/
import Derived.Test.YtfkgmkcndchkjaaGreatDoorMgC
import Derived.Test.YtfkgmkcndchkjaaGreatDoorMgB
import Derived.Test.YtfkgmkcndchkjaaGreatDoorIOp
import Derived.Test.YtfkgmkcndchkjaaGreatDoorIOps
import Derived.Test.YtfkgmkcndchkjaaGreatDoorCliQ
import Derived.Test.YtfkgmkcndchkjaaGreatDoorIsE
import Derived.Test.YtfkgmkcndchkjaaGreatDoorCliX
namespace Go.Proofs.YtfkgmkcndchkjaaGreatDoor.OpR
open Go.ChangeShapes Go.WideShapes Go.ChangeAt Go.RowKit
set_option linter.unusedVariables false

def mayCode (l : List NodG) (x p : Int) : Int := if placeB l p then (if decide (p = x) || abF (par l) x (l.length + 1) p then 10 else 0) else 6
theorem may_code (l : List NodG) (o : OpV) : decide (mayCode l o.node o.parent = 0) = (placeB l o.parent && (!decide (o.parent = o.node) && !abF (par l) o.node (l.length + 1) o.parent)) := by
  unfold mayCode
  cases placeB l o.parent
  · rfl
  · cases decide (o.parent = o.node)
    · cases abF (par l) o.node (l.length + 1) o.parent <;> rfl
    · rfl
set_option maxRecDepth 100000 in
set_option maxHeartbeats 1000000 in
theorem sMay_any (l : List NodG) (ao : Option Addr) (cap : Nat) (x p : Int) (w : World) (ht : TreeR l) (hA : NodesAt w ao l) :
    Calls Tryz.prog 42 #[.agg #[.slice ao l.length cap], .int .i64 x, .int .i64 p] w fun e w' => e = .returned (.int .i64 (mayCode l x p)) ∧ Below w.heap.size w w' := by
  have hl : l.length ≤ 1048576 := by have := ht.1; omega
  obtain ⟨p0, p1⟩ := tree_par ht
  have hpl := fun W (hW : Below w.heap.size w W) => sPlace_any l ao cap p W hl (hA.stays hW)
  have H1 := hide (Box1.start w (.slice ao l.length cap) 72)
  have HA := hide hA
  have HTR := hide ht
  have HP := hide (And.intro p0 p1)
  clear hA ht p0 p1
  cases hp : placeB l p
  · have HF : Hid (mayCode l x p = 6) := ⟨by simp [mayCode, hp]⟩
    simp only [hp] at hpl
    clear hp
    go_enter Tryz.func42, Tryz.ntmps42
    go_wp2_with (first | (go_at_call 71; refine (hpl _ H1.out.below).mono ?_; rintro e w1 ⟨rfl, hb1⟩))
    go_ret
    exact ⟨by rw [HF.out]; rfl, (H1.out.step hb1).below⟩
  · simp only [hp] at hpl
    by_cases hpx : p = x
    · have HF : Hid (mayCode l x p = 10) := ⟨by simp [mayCode, hpx] at hp ⊢; simp [hp]⟩
      clear hp
      subst hpx
      go_enter Tryz.func42, Tryz.ntmps42
      go_wp2_with (first | (go_at_call 71; refine (hpl _ H1.out.below).mono ?_; rintro e w1 ⟨rfl, hb1⟩))
      go_ret
      exact ⟨by rw [HF.out]; rfl, (H1.out.step hb1).below⟩
    · have hpx' : (p == x) = false := by simpa using hpx
      by_cases h1 : 1 < p
      · have hen : Hid (endsF (par l) (l.length + 1) p = true) := ⟨by
          unfold placeB at hp
          cases e : nodOf l p with
          | none => rw [e] at hp; simp at hp; omega
          | some n => exact tree_ends HTR.out e⟩
        have hup := fun W (hW : Below w.heap.size w W) => sUp_any l ao cap p x W hl (HA.out.stays hW) HP.out.1 HP.out.2 hen.out
        cases hab : abF (par l) x (l.length + 1) p
        · have HF : Hid (mayCode l x p = 0) := ⟨by simp [mayCode, hp, hpx, hab]⟩
          simp only [hab] at hup
          clear hp hab
          go_enter Tryz.func42, Tryz.ntmps42
          go_wp2_with (first | (go_at_call 71; refine (hpl _ H1.out.below).mono ?_; rintro e w1 ⟨rfl, hb1⟩; have hbx := H1.out.step hb1; have H2 := hide hbx; have hc := hbx.cell; clear hbx hb1) | (go_at_call 72; refine (hup _ H2.out.below).mono ?_; rintro e w2 ⟨rfl, hb2⟩))
          go_ret
          exact ⟨by rw [HF.out]; rfl, (H2.out.step hb2).below⟩
        · have HF : Hid (mayCode l x p = 10) := ⟨by simp [mayCode, hp, hpx, hab]⟩
          simp only [hab] at hup
          clear hp hab
          go_enter Tryz.func42, Tryz.ntmps42
          go_wp2_with (first | (go_at_call 71; refine (hpl _ H1.out.below).mono ?_; rintro e w1 ⟨rfl, hb1⟩; have hbx := H1.out.step hb1; have H2 := hide hbx; have hc := hbx.cell; clear hbx hb1) | (go_at_call 72; refine (hup _ H2.out.below).mono ?_; rintro e w2 ⟨rfl, hb2⟩))
          go_ret
          exact ⟨by rw [HF.out]; rfl, (H2.out.step hb2).below⟩
      · have hab : abF (par l) x (l.length + 1) p = false := by
          have hn : nodOf l p = none := no_low (fun n hn => (nodOk_parts (HTR.out.2.2 n hn)).id) (by omega)
          simp [abF, hpx, par, hn]
        have HF : Hid (mayCode l x p = 0) := ⟨by simp [mayCode, hp, hpx, hab]⟩
        clear hp hab
        go_enter Tryz.func42, Tryz.ntmps42
        go_wp2_with (first | (go_at_call 71; refine (hpl _ H1.out.below).mono ?_; rintro e w1 ⟨rfl, hb1⟩))
        go_ret
        exact ⟨by rw [HF.out]; rfl, (H1.out.step hb1).below⟩
end Go.Proofs.YtfkgmkcndchkjaaGreatDoor.OpR
namespace Go.Proofs.YtfkgmkcndchkjaaGreatDoor.OpR
open Go.ChangeShapes Go.WideShapes Go.ChangeAt Go.RowKit
set_option linter.unusedVariables false

theorem DoV.set3 {w c : World} {B : Nat} {o : OpV} {n k : NodG} {kd : Int} (h : DoV w c B o n k kd) (ps : List PropV) (ao : Option Addr) (cap : Nat) :
    DoV w (c.setCell ⟨w.heap.size + 1 + 1, 3, none⟩ (.slice ao ps.length cap)) B o n ⟨k.id, k.parent, k.name, ps, ao, cap⟩ kd := by
  have hs : (c.setCell ⟨w.heap.size + 1 + 1, 3, none⟩ (.slice ao ps.length cap)).heap.size = c.heap.size := by simp [World.setCell]
  have ho : ∀ b, b ≠ w.heap.size + 1 + 1 → (c.setCell ⟨w.heap.size + 1 + 1, 3, none⟩ (.slice ao ps.length cap)).heap[b]? = c.heap[b]? := fun b hb => Below.heap_setCell _ _ _ _ hb
  refine ⟨⟨h.grown.os, h.grown.tape, h.grown.output, Nat.le_trans h.grown.size (Nat.le_of_eq hs.symm), fun b hb hne => ?_⟩, (ho _ (by omega)).trans h.op, (ho _ (by omega)).trans h.was, ?_⟩
  · exact (ho b (by omega)).trans (h.grown.block b hb hne)
  · exact set_block h.now 3 (.slice ao ps.length cap)
theorem MapAt.set {c : World} {B : Nat} {m : List (Int × NodG)} (h : MapAt c B m) {a : Addr} (hg : B ≠ a.block) (x : Value) : MapAt (c.setCell a x) B m := h.block (Below.heap_setCell _ _ _ _ hg)
theorem PropsAt.set {w : World} {ao : Option Addr} {l : List PropV} (h : PropsAt w ao l) {a : Addr} (hne : ∀ x, ao = some x → x.block ≠ a.block) (v : Value) : PropsAt (w.setCell a v) ao l := fun j hj => by
  obtain ⟨b, off, e, hlt, ho⟩ := h j hj
  exact ⟨b, off, e, by simpa [World.setCell] using hlt, ho.block (Below.heap_setCell _ _ _ _ (hne _ e))⟩
set_option maxRecDepth 100000 in
set_option maxHeartbeats 1000000 in
theorem doSet_any (m : List (Int × NodG)) (B : Nat) (o : OpV) (n : NodG) (there : Bool) (w : World) (hk : o.kind = 2) (hx : In64 o.node) (hW : Was m o.node n there) (hl : m.length ≤ 150) (hM : MapAt w B m) (hn20 : n.props.length ≤ 20) (hP : PropsAt w n.pao n.props)
    (hho : ∀ a2 c2 W, MapAt W B (kvPut m o.node ⟨n.id, n.parent, n.name, mrgP (keepP ⟨o.name, o.value⟩ n.props) [⟨o.name, o.value⟩], a2, c2⟩) → w.grownBy W (some B) → PropsAt W a2 (mrgP (keepP ⟨o.name, o.value⟩ n.props) [⟨o.name, o.value⟩]) → Calls Tryz.prog 163 #[.map (some B), .agg #[.int .i64 n.id, .int .i64 n.parent, .string n.name, .slice a2 (mrgP (keepP ⟨o.name, o.value⟩ n.props) [⟨o.name, o.value⟩]).length c2]] W fun e w' => e = .returned (.bool (holdsB (kvPut m o.node ⟨n.id, n.parent, n.name, mrgP (keepP ⟨o.name, o.value⟩ n.props) [⟨o.name, o.value⟩], a2, c2⟩) ⟨n.id, n.parent, n.name, mrgP (keepP ⟨o.name, o.value⟩ n.props) [⟨o.name, o.value⟩], a2, c2⟩)) ∧ Below W.heap.size W w') :
    Calls Tryz.prog 142 #[.map (some B), o.agg] w fun e w' => (∃ v, e = .returned v) ∧ ∃ a2 c2, (∀ x, a2 = some x → w.heap.size + 1 + 1 < x.block) ∧ MapAt w' B (doRes m o.node ⟨n.id, n.parent, n.name, mrgP (keepP ⟨o.name, o.value⟩ n.props) [⟨o.name, o.value⟩], a2, c2⟩ n there) ∧ PropsAt w' a2 (mrgP (keepP ⟨o.name, o.value⟩ n.props) [⟨o.name, o.value⟩]) ∧ w.grownBy w' (some B) := by
  have HM := hide hM
  have HX := hide hx
  have HW := hide hW
  have HH := hide hho
  have hBw := hM.lt
  have hwp := fun W (hW : Below w.heap.size w W) => withProp_any n.props n.pao n.pcap ⟨o.name, o.value⟩ W hn20 (hP.stays hW)
  unfold PropV.agg at hwp
  have HWP := hide hwp
  clear hx hW hho hwp
  unfold OpV.agg
  have H0 := hide (do_vars w B o n 2)
  have HM0 := hide (do_map hM o n 2)
  have HB0 : Hid (Below w.heap.size w (((w.alloc (.cells #[.int .i64 o.time, .int .i64 o.repl, .int .i64 2, .int .i64 o.node, .int .i64 o.parent, .string o.name, .string o.value] 30)).alloc (.cells #[.int .i64 n.id, .int .i64 n.parent, .string n.name, .slice n.pao n.props.length n.pcap] 120)).alloc (.cells #[.int .i64 n.id, .int .i64 n.parent, .string n.name, .slice n.pao n.props.length n.pcap] 120))) := ⟨(((Below.refl _ _).alloc (Nat.le_refl _) _).alloc (by simp) _).alloc (by simp; omega) _⟩
  go_enter Tryz.func142, Tryz.ntmps142
  go_wp2_with (at_lookup; refine wpList_look_any _ rfl _ _ rfl B m rfl (HM.out.stays ((Below.refl _ _).alloc (Nat.le_refl _) _)) o.node HX.out rfl n there HW.out ?_)
  refine (HWP.out _ HB0.out).mono ?_
  rintro e w3 ⟨v3, rfl, ho3, hb3⟩
  obtain ⟨a2, c2, rfl, _, hA3⟩ := owns_atP ho3
  have hV3 := H0.out.step hb3
  have HBK : Hid (∀ x, a2 = some x → w.heap.size + 1 + 1 < x.block) := ⟨fun x hx => by
    have := (ho3.lt x.block (by rw [hx]; rfl)).1
    simp at this
    omega⟩
  have HVY := hide (hV3.set3 (mrgP (keepP ⟨o.name, o.value⟩ n.props) [⟨o.name, o.value⟩]) a2 c2)
  have HMY := hide ((HM0.out.stays hb3).set (a := ⟨w.heap.size + 1 + 1, 3, none⟩) (show B ≠ w.heap.size + 1 + 1 by omega) (.slice a2 (mrgP (keepP ⟨o.name, o.value⟩ n.props) [⟨o.name, o.value⟩]).length c2))
  have HPY := hide (hA3.set (a := ⟨w.heap.size + 1 + 1, 3, none⟩) (fun x hx => by have := HBK.out x hx; show x.block ≠ w.heap.size + 1 + 1; omega) (.slice a2 (mrgP (keepP ⟨o.name, o.value⟩ n.props) [⟨o.name, o.value⟩]).length c2))
  obtain ⟨o0, o1, o2, o3, o4, o5, o6⟩ := cells7 hV3.op
  obtain ⟨n0, n1, n2, n3, _, _, _, f3⟩ := cells4 hV3.now
  have HL := hide (put_le m o.node ⟨n.id, n.parent, n.name, mrgP (keepP ⟨o.name, o.value⟩ n.props) [⟨o.name, o.value⟩], a2, c2⟩)
  clear hV3 hA3 ho3 hb3 HWP HB0 H0 HM0 hP
  by_cases hlen : (kvPut m o.node ⟨n.id, n.parent, n.name, mrgP (keepP ⟨o.name, o.value⟩ n.props) [⟨o.name, o.value⟩], a2, c2⟩).length ≤ 150
  · have hlen' : decide ((150 : Int) < ((kvPut m o.node ⟨n.id, n.parent, n.name, mrgP (keepP ⟨o.name, o.value⟩ n.props) [⟨o.name, o.value⟩], a2, c2⟩).length : Int)) = false := by simp; omega
    cases hok : holdsB (kvPut m o.node ⟨n.id, n.parent, n.name, mrgP (keepP ⟨o.name, o.value⟩ n.props) [⟨o.name, o.value⟩], a2, c2⟩) ⟨n.id, n.parent, n.name, mrgP (keepP ⟨o.name, o.value⟩ n.props) [⟨o.name, o.value⟩], a2, c2⟩
    · have HIF : Hid (doRes m o.node ⟨n.id, n.parent, n.name, mrgP (keepP ⟨o.name, o.value⟩ n.props) [⟨o.name, o.value⟩], a2, c2⟩ n there = backM (kvPut m o.node ⟨n.id, n.parent, n.name, mrgP (keepP ⟨o.name, o.value⟩ n.props) [⟨o.name, o.value⟩], a2, c2⟩) o.node n there) := ⟨by simp [doRes, hok]⟩
      go_wp2_with (first | (at_mapUpdate; refine wpList_put_node _ rfl _ _ _ rfl B m rfl HMY.out (by unfold maxLen; omega) o.node HX.out rfl ⟨n.id, n.parent, n.name, mrgP (keepP ⟨o.name, o.value⟩ n.props) [⟨o.name, o.value⟩], a2, c2⟩ rfl ?_; intro Z hMZ htZ; have hVZ := HVY.out.turn hBw htZ.grown; have HVZ := hide hVZ; have HMZ := hide hMZ; have HPZ := hide (HPY.out.grown htZ.grown (fun x hx => by have := HBK.out x hx; simp; omega)); clear o0 o1 o2 o3 o4 o5 o6 n0 n1 n2 n3 f3 htZ; obtain ⟨o0, o1, o2, o3, o4, o5, o6⟩ := cells7 hVZ.op; obtain ⟨n0, n1, n2, n3, _, _, _, _⟩ := cells4 hVZ.now; obtain ⟨s0, s1, s2, s3, _, _, _, _⟩ := cells4 hVZ.was; clear hVZ hMZ) | (at_len; refine wpList_len_nodes _ rfl _ rfl B _ rfl HMZ.out ?_) | (go_at_call 163; refine (HH.out a2 c2 Z HMZ.out HVZ.out.grown HPZ.out).mono ?_; rintro e w5 ⟨rfl, hb5⟩; rw [hok]; have hV5 := HVZ.out.step hb5; have HV5 := hide hV5; have HM5 := hide (HMZ.out.stays hb5); have HP5 := hide (HPZ.out.stays hb5); clear o0 o1 o2 o3 o4 o5 o6 n0 n1 n2 n3 s0 s1 s2 s3; obtain ⟨o0, o1, o2, o3, o4, o5, o6⟩ := cells7 hV5.op; obtain ⟨s0, s1, s2, s3, _, _, _, _⟩ := cells4 hV5.was; clear hV5 hb5) | (go_at_call 164; refine (takeBack_any _ B o.node n there _ HX.out (by have := HL.out; unfold maxLen; omega) HM5.out).mono ?_; rintro e w6 ⟨⟨v6, rfl⟩, hM6, hg6⟩; have HP6 := hide (HP5.out.grown hg6 (fun x hx => by have := HBK.out x hx; simp; omega))) | go_in)
      go_end0
      exact ⟨⟨_, rfl⟩, a2, c2, HBK.out, by rw [HIF.out]; exact hM6, HP6.out, HV5.out.grown.trans hg6⟩
    · have HIF : Hid (doRes m o.node ⟨n.id, n.parent, n.name, mrgP (keepP ⟨o.name, o.value⟩ n.props) [⟨o.name, o.value⟩], a2, c2⟩ n there = kvPut m o.node ⟨n.id, n.parent, n.name, mrgP (keepP ⟨o.name, o.value⟩ n.props) [⟨o.name, o.value⟩], a2, c2⟩) := ⟨by simp [doRes, hlen, hok]⟩
      go_wp2_with (first | (at_mapUpdate; refine wpList_put_node _ rfl _ _ _ rfl B m rfl HMY.out (by unfold maxLen; omega) o.node HX.out rfl ⟨n.id, n.parent, n.name, mrgP (keepP ⟨o.name, o.value⟩ n.props) [⟨o.name, o.value⟩], a2, c2⟩ rfl ?_; intro Z hMZ htZ; have hVZ := HVY.out.turn hBw htZ.grown; have HVZ := hide hVZ; have HMZ := hide hMZ; have HPZ := hide (HPY.out.grown htZ.grown (fun x hx => by have := HBK.out x hx; simp; omega)); clear o0 o1 o2 o3 o4 o5 o6 n0 n1 n2 n3 f3 htZ; obtain ⟨o0, o1, o2, o3, o4, o5, o6⟩ := cells7 hVZ.op; obtain ⟨n0, n1, n2, n3, _, _, _, _⟩ := cells4 hVZ.now; obtain ⟨s0, s1, s2, s3, _, _, _, _⟩ := cells4 hVZ.was; clear hVZ hMZ) | (at_len; refine wpList_len_nodes _ rfl _ rfl B _ rfl HMZ.out ?_) | (go_at_call 163; refine (HH.out a2 c2 Z HMZ.out HVZ.out.grown HPZ.out).mono ?_; rintro e w5 ⟨rfl, hb5⟩; rw [hok]; have hV5 := HVZ.out.step hb5; have HV5 := hide hV5; have HM5 := hide (HMZ.out.stays hb5); have HP5 := hide (HPZ.out.stays hb5); clear o0 o1 o2 o3 o4 o5 o6 n0 n1 n2 n3 s0 s1 s2 s3; obtain ⟨o0, o1, o2, o3, o4, o5, o6⟩ := cells7 hV5.op; obtain ⟨s0, s1, s2, s3, _, _, _, _⟩ := cells4 hV5.was; clear hV5 hb5) | go_in)
      go_end0
      exact ⟨⟨_, rfl⟩, a2, c2, HBK.out, by rw [HIF.out]; exact HM5.out, HP5.out, HV5.out.grown⟩
  · have hlen' : (150 : Int) < ((kvPut m o.node ⟨n.id, n.parent, n.name, mrgP (keepP ⟨o.name, o.value⟩ n.props) [⟨o.name, o.value⟩], a2, c2⟩).length : Int) := by omega
    have HIF : Hid (doRes m o.node ⟨n.id, n.parent, n.name, mrgP (keepP ⟨o.name, o.value⟩ n.props) [⟨o.name, o.value⟩], a2, c2⟩ n there = backM (kvPut m o.node ⟨n.id, n.parent, n.name, mrgP (keepP ⟨o.name, o.value⟩ n.props) [⟨o.name, o.value⟩], a2, c2⟩) o.node n there) := ⟨by simp [doRes, hlen]⟩
    go_wp2_with (first | (at_mapUpdate; refine wpList_put_node _ rfl _ _ _ rfl B m rfl HMY.out (by unfold maxLen; omega) o.node HX.out rfl ⟨n.id, n.parent, n.name, mrgP (keepP ⟨o.name, o.value⟩ n.props) [⟨o.name, o.value⟩], a2, c2⟩ rfl ?_; intro Z hMZ htZ; have hVZ := HVY.out.turn hBw htZ.grown; have HVZ := hide hVZ; have HMZ := hide hMZ; have HPZ := hide (HPY.out.grown htZ.grown (fun x hx => by have := HBK.out x hx; simp; omega)); clear o0 o1 o2 o3 o4 o5 o6 n0 n1 n2 n3 f3 htZ; obtain ⟨o0, o1, o2, o3, o4, o5, o6⟩ := cells7 hVZ.op; obtain ⟨n0, n1, n2, n3, _, _, _, _⟩ := cells4 hVZ.now; obtain ⟨s0, s1, s2, s3, _, _, _, _⟩ := cells4 hVZ.was; clear hVZ hMZ) | (at_len; refine wpList_len_nodes _ rfl _ rfl B _ rfl HMZ.out ?_) | (go_at_call 164; refine (takeBack_any _ B o.node n there _ HX.out (by have := HL.out; unfold maxLen; omega) HMZ.out).mono ?_; rintro e w6 ⟨⟨v6, rfl⟩, hM6, hg6⟩; have HP6 := hide (HPZ.out.grown hg6 (fun x hx => by have := HBK.out x hx; simp; omega))) | go_in)
    go_end0
    exact ⟨⟨_, rfl⟩, a2, c2, HBK.out, by rw [HIF.out]; exact hM6, HP6.out, HVZ.out.grown.trans hg6⟩
end Go.Proofs.YtfkgmkcndchkjaaGreatDoor.OpR
namespace Go.Proofs.YtfkgmkcndchkjaaGreatDoor.OpR
open Go.ChangeShapes Go.WideShapes Go.ChangeAt Go.RowKit
set_option linter.unusedVariables false

/-- The props of nodes lie, and none in the map's own block. -/
structure PropsIn (w : World) (B : Nat) (l : List NodG) : Prop where
  at_ : ∀ n ∈ l, PropsAt w n.pao n.props
  off : ∀ n ∈ l, n.props ≠ [] → ∀ x, n.pao = some x → x.block ≠ B
theorem props_nil (w : World) (ao : Option Addr) : PropsAt w ao [] := fun j hj => absurd hj (by simp)
theorem PropsIn.getD {w : World} {B : Nat} {l : List NodG} (h : PropsIn w B l) (x : Int) : PropsAt w ((nodOf l x).getD NodG.zero).pao ((nodOf l x).getD NodG.zero).props ∧ (((nodOf l x).getD NodG.zero).props ≠ [] → ∀ y, ((nodOf l x).getD NodG.zero).pao = some y → y.block ≠ B) := by
  cases e : nodOf l x with
  | none => exact ⟨props_nil _ _, fun _ y hy => by cases hy⟩
  | some n => exact ⟨h.at_ n (nodOf_some e).1, h.off n (nodOf_some e).1⟩
theorem PropsAt.turn {w w' : World} {B : Nat} {ao : Option Addr} {ps : List PropV} (h : PropsAt w ao ps) (hg : w.grownBy w' (some B)) (ho : ps ≠ [] → ∀ y, ao = some y → y.block ≠ B) : PropsAt w' ao ps := by
  cases ps with
  | nil => exact props_nil _ _
  | cons p r => exact h.grown hg fun a ha e => ho (by simp) a ha (Option.some.inj e)
theorem PropsIn.grown {w w' : World} {B : Nat} {l : List NodG} (h : PropsIn w B l) (hg : w.grownBy w' (some B)) : PropsIn w' B l :=
  ⟨fun n hn => (h.at_ n hn).turn hg (h.off n hn), h.off⟩
theorem PropsIn.stays {w w' : World} {B : Nat} {l : List NodG} (h : PropsIn w B l) (hb : Below w.heap.size w w') : PropsIn w' B l :=
  ⟨fun n hn => (h.at_ n hn).stays hb, h.off⟩
theorem PropsIn.start {w w' : World} {B : Nat} {ao : Option Addr} {l : List NodG} (h : NodesAt w ao l) (hb : Below w.heap.size w w') (hB : w.heap.size ≤ B) : PropsIn w' B l :=
  ⟨fun n hn => (h.props n hn).stays hb, fun n hn hne x hx => by
    have hlen : 0 < n.props.length := List.length_pos_iff.2 hne
    obtain ⟨b, off, e, hlt, _⟩ := h.props n hn 0 hlen
    rw [hx] at e
    have := congrArg Addr.block (Option.some.inj e)
    simp at this
    omega⟩
theorem rng_put {l : List NodG} (hg : Rng l) (x : Int) {n : NodG} (hn : In64 n.parent) : RngM (kvPut (kvOf l) x n) := fun p hp => by
  rcases kvPut_mem hp with rfl | hp
  · exact hn
  · exact rngM_of hg p hp
theorem getD_sized {l : List NodG} (ht : TreeR l) (x : Int) : Sized1 1048576 ((nodOf l x).getD NodG.zero) ∧ In64 ((nodOf l x).getD NodG.zero).id ∧ In64 ((nodOf l x).getD NodG.zero).parent := by
  cases e : nodOf l x with
  | none => exact ⟨⟨by decide, by decide, fun p hp => by cases hp⟩, by unfold In64; decide, by unfold In64; decide⟩
  | some n => exact ⟨tree_sized ht n (nodOf_some e).1, tree_rng ht n (nodOf_some e).1⟩
theorem do_any (l : List NodG) (B : Nat) (o : OpV) (w : World) (ht : TreeR l) (ho : OpOk o) (hM : MapAt w B (kvOf l)) (hP : PropsIn w B l) :
    Calls Tryz.prog 142 #[.map (some B), o.agg] w fun e w' => (∃ v, e = .returned v) ∧ ∃ a c, MapAt w' B (kvOf (tdo l o a c)) ∧ PropsIn w' B (tdo l o a c) ∧ w.grownBy w' (some B) := by
  have h150 := ht.1
  have hx : In64 o.node := by have := ho.node; unfold In64; omega
  have hW := was_of l o.node
  have hpr := was_props ht hW
  obtain ⟨hG1, hG2⟩ := hP.getD o.node
  obtain ⟨hS, hI1, hI2⟩ := getD_sized ht o.node
  have hnm := (NameR.nmB_iff _).1 ho.name
  have hval := ho.value
  have hBw := hM.lt
  rcases ho.kind with ⟨hk, hp0, hp1⟩ | hk
  · refine (doMove_any (kvOf l) B o _ _ w hk hx hW (by rw [kvOf_len]; exact h150) hM fun W hMW hg => ?_).mono ?_
    · exact holds_any (kvPut (kvOf l) o.node (moveN o ((nodOf l o.node).getD NodG.zero))) B (moveN o ((nodOf l o.node).getD NodG.zero)) W (by have := put_le (kvOf l) o.node (moveN o ((nodOf l o.node).getD NodG.zero)); rw [kvOf_len] at this; omega) (rng_put (tree_rng ht) _ (show In64 o.parent by unfold In64; omega)) hx ⟨show o.name.size ≤ 1048576 by omega, hS.2.1, hS.2.2⟩ (hG1.turn hg hG2) hMW
    · rintro e w' ⟨hv, hM', hg⟩
      refine ⟨hv, none, 0, ?_, ⟨fun n hn => ?_, fun n hn => ?_⟩, hg⟩
      · rw [← doRes_move ht ho hk]; exact hM'
      · rcases tdo_mem hn with hn | ⟨rfl, _⟩ | ⟨m, h1, _⟩
        · exact (hP.grown hg).at_ n hn
        · exact hG1.turn hg hG2
        · exact absurd hk h1
      · rcases tdo_mem hn with hn | ⟨rfl, _⟩ | ⟨m, h1, _⟩
        · exact hP.off n hn
        · exact hG2
        · exact absurd hk h1
  · have hset : mrgP (keepP ⟨o.name, o.value⟩ ((nodOf l o.node).getD NodG.zero).props) [⟨o.name, o.value⟩] = setP ⟨o.name, o.value⟩ ((nodOf l o.node).getD NodG.zero).props := setP_mrg ⟨o.name, o.value⟩ (rise_pair hpr.2.2)
    refine (doSet_any (kvOf l) B o _ _ w hk hx hW (by rw [kvOf_len]; exact h150) hM hpr.1 hG1 fun a2 c2 W hMW hg hA => ?_).mono ?_
    · refine holds_any _ B ⟨((nodOf l o.node).getD NodG.zero).id, ((nodOf l o.node).getD NodG.zero).parent, ((nodOf l o.node).getD NodG.zero).name, mrgP (keepP ⟨o.name, o.value⟩ ((nodOf l o.node).getD NodG.zero).props) [⟨o.name, o.value⟩], a2, c2⟩ W ?_ (rng_put (tree_rng ht) _ hI2) hI1 ⟨hS.1, ?_, fun p hp => ?_⟩ hA hMW
      · refine Nat.le_trans (put_le _ _ _) ?_
        rw [kvOf_len]; omega
      · show (mrgP (keepP ⟨o.name, o.value⟩ ((nodOf l o.node).getD NodG.zero).props) [⟨o.name, o.value⟩]).length ≤ 1048576
        rw [hset, setP_len _ _ (rise_pair hpr.2.2)]
        have := hpr.1
        split <;> omega
      · rw [show (NodG.props _) = setP ⟨o.name, o.value⟩ ((nodOf l o.node).getD NodG.zero).props from hset] at hp
        rcases setP_mem hp with rfl | hp
        · exact ⟨show o.name.size ≤ 1048576 by omega, show o.value.size ≤ 1048576 by omega⟩
        · exact hS.2.2 p hp
    · rintro e w' ⟨hv, a2, c2, hbk, hM', hA, hg⟩
      refine ⟨hv, a2, c2, ?_, ⟨fun n hn => ?_, fun n hn => ?_⟩, hg⟩
      · rw [← doRes_set ht ho hk a2 c2 _ rfl]; exact hM'
      · rcases tdo_mem hn with hn | ⟨_, h1⟩ | ⟨m, h1, h2, rfl⟩
        · exact (hP.grown hg).at_ n hn
        · omega
        · rw [hset, h2] at hA; exact hA
      · rcases tdo_mem hn with hn | ⟨_, h1⟩ | ⟨m, h1, h2, rfl⟩
        · exact hP.off n hn
        · omega
        · intro _ x hx'
          have := hbk x hx'
          omega
end Go.Proofs.YtfkgmkcndchkjaaGreatDoor.OpR
namespace Go.Proofs.YtfkgmkcndchkjaaGreatDoor.OpR
open Go.ChangeShapes Go.WideShapes Go.ChangeAt Go.RowKit
set_option linter.unusedVariables false

/-- The variables of TreeDo: the tree, the op, the answer. -/
structure DoB (w c : World) (sv rv : Value) (o : OpV) : Prop where
  below : Below w.heap.size w c
  tv : c.heap[w.heap.size]? = some (.cells #[sv] 72 (0, 0))
  op : c.heap[w.heap.size + 1]? = some (.cells #[.int .i64 o.time, .int .i64 o.repl, .int .i64 o.kind, .int .i64 o.node, .int .i64 o.parent, .string o.name, .string o.value] 30 (0, 0))
  rv : c.heap[w.heap.size + 1 + 1]? = some (.cells #[rv] 72 (0, 0))
theorem DoB.lt {w c : World} {sv rv : Value} {o : OpV} (h : DoB w c sv rv o) : w.heap.size + 1 + 1 < c.heap.size := (Array.getElem?_eq_some_iff.1 h.rv).1
theorem DoB.step {w c c' : World} {sv rv : Value} {o : OpV} (h : DoB w c sv rv o) (hb : Below c.heap.size c c') : DoB w c' sv rv o :=
  have hl := h.lt
  ⟨h.below.trans (hb.mono h.below.size), (hb.block _ (by omega)).trans h.tv, (hb.block _ (by omega)).trans h.op, (hb.block _ (by omega)).trans h.rv⟩
theorem DoB.turn {w c c' : World} {sv rv : Value} {o : OpV} {B : Nat} (h : DoB w c sv rv o) (hB : w.heap.size + 1 + 1 < B) (hg : c.grownBy c' (some B)) : DoB w c' sv rv o :=
  have hl := h.lt
  have hs := h.below.size
  ⟨⟨hg.os.trans h.below.os, hg.tape.trans h.below.tape, hg.output.trans h.below.output, Nat.le_trans hs hg.size, fun k hk => (hg.block k (by omega) (by simp; omega)).trans (h.below.block k hk)⟩, (hg.block _ (by omega) (by simp; omega)).trans h.tv, (hg.block _ (by omega) (by simp; omega)).trans h.op, (hg.block _ (by omega) (by simp; omega)).trans h.rv⟩
theorem DoB.start (w : World) (sv rv : Value) (o : OpV) : DoB w (((w.alloc (.cells #[sv] 72)).alloc (.cells #[.int .i64 o.time, .int .i64 o.repl, .int .i64 o.kind, .int .i64 o.node, .int .i64 o.parent, .string o.name, .string o.value] 30)).alloc (.cells #[rv] 72)) sv rv o :=
  ⟨(((Below.refl _ _).alloc (Nat.le_refl _) _).alloc (by simp) _).alloc (by simp; omega) _, by
    rw [Below.heap_alloc _ _ _ (by simp; omega), Below.heap_alloc _ _ _ (by simp)]; exact heap_alloc_new w _, mid3 _ _ _ _, last3 _ _ _ _⟩

theorem DoB.fin {w w1 w4 : World} {sv rv sv' rv' v : Value} {o : OpV} {d : List NodG} (h1 : DoB w w1 sv rv o) (h4 : DoB w w4 sv' rv' o) (ht : TreeOwn w4 w1.heap.size v d) (x : Value) :
    TreeOwn (w4.setCell ⟨w.heap.size + 1 + 1, 0, none⟩ x) w.heap.size v d ∧ Below w.heap.size w (w4.setCell ⟨w.heap.size + 1 + 1, 0, none⟩ x) := by
  have hl := h1.lt
  refine ⟨(ht.moved (fun g hg => ?_)).lower (by omega), h4.below.setCell (p := ⟨w.heap.size + 1 + 1, 0, none⟩) (show w.heap.size ≤ w.heap.size + 1 + 1 by omega) _⟩
  exact Below.heap_setCell _ _ _ _ (by simp; omega)

end Go.Proofs.YtfkgmkcndchkjaaGreatDoor.OpR
namespace Go.Proofs.YtfkgmkcndchkjaaGreatDoor.OpR
open Go.ChangeShapes Go.WideShapes Go.ChangeAt Go.RowKit
set_option linter.unusedVariables false

/-- The tree of ops, from no node on. -/
def tof (l : List OpV) : List NodG := l.foldl (fun d o => tdo d o none 0) []
theorem tof_take {l : List OpV} {k : Nat} (h : k < l.length) : tof (l.take (k + 1)) = tdo (tof (l.take k)) l[k] none 0 := by
  unfold tof
  rw [← List.take_append_getElem h, List.foldl_append]
  rfl
theorem tree_nil : TreeR [] := ⟨by simp, fun i hi => absurd hi (by simp), fun n hn => absurd hn (by simp)⟩
theorem tof_right {l : List OpV} (h : ∀ i (h : i < l.length), opRight l[i] = true) : ∀ k, k ≤ l.length → TreeR (tof (l.take k))
  | 0, _ => by rw [List.take_zero]; exact tree_nil
  | k + 1, hk => by
    rw [tof_take (by omega)]
    exact tdo_right (tof_right h k (by omega)) (opOk_of (h k (by omega))) _ _
/-- What TreeOf answers. -/
def treeOf (l : List OpV) : List NodG := if logRight l then tof l else []
/-- What the loop of TreeOf holds: the answer's variable, the map, the nodes. -/
structure OfV (w c : World) (B : Nat) (d : List NodG) : Prop where
  box : Box1 w c w.heap.size (.slice none 0 0) 72
  at_ : w.heap.size < B
  map : MapAt c B (kvOf d)
  props : PropsIn c B d
  right : TreeR d
theorem Box1.turn {w c c' : World} {v : Value} {T : TypeId} {B : Nat} (h : Box1 w c w.heap.size v T) (hB : w.heap.size < B) (hg : c.grownBy c' (some B)) : Box1 w c' w.heap.size v T := by
  have hl := (Array.getElem?_eq_some_iff.1 h.lies).1
  have hs := h.below.size
  exact ⟨⟨hg.os.trans h.below.os, hg.tape.trans h.below.tape, hg.output.trans h.below.output, Nat.le_trans hs hg.size, fun k hk => (hg.block k (by omega) (by simp; omega)).trans (h.below.block k hk)⟩, (hg.block _ hl (by simp; omega)).trans h.lies⟩
theorem OfV.step {w c c' : World} {B : Nat} {d : List NodG} (h : OfV w c B d) (hb : Below c.heap.size c c') : OfV w c' B d :=
  ⟨h.box.step hb, h.at_, h.map.stays hb, h.props.stays hb, h.right⟩

theorem tree_own_nil (w : World) (base : Nat) : TreeOwn w base (.slice none 0 0) [] := ⟨⟨by simp [flatG], .inl ⟨rfl, rfl⟩⟩, fun n hn => absurd hn (by simp), List.Pairwise.nil, fun n hn => absurd hn (by simp)⟩
set_option maxRecDepth 100000 in
set_option maxHeartbeats 1000000 in
theorem iTreeOf_any (l : List OpV) (ao : Option Addr) (cap : Nat) (w : World) (hl : l.length ≤ maxLen) (hA : OpsAt w ao l) (hS : Sized l) :
    Calls Tryz.prog 106 #[.slice ao l.length cap] w fun e w' => ∃ v d, e = .returned (.agg #[v]) ∧ TreeOwn w' w.heap.size v d ∧ d.map NodG.bare = (treeOf l).map NodG.bare ∧ Below w.heap.size w w' := by
  have hlr := fun W (hW : Below w.heap.size w W) => iLog_any l ao cap W hl (hA.stays hW) hS
  have HA := hide hA
  have H1 := hide (Box1.start w (.slice none 0 0) 72)
  clear hA hS
  cases hr : logRight l
  · have HF : Hid (treeOf l = []) := ⟨by simp [treeOf, hr]⟩
    simp only [hr] at hlr
    go_enter Tryz.func106, Tryz.ntmps106
    go_wp2_with (first | (go_at_call 136; refine (hlr _ H1.out.below).mono ?_; rintro e w1 ⟨rfl, hb1⟩; have H2 := hide (H1.out.step hb1); have hc := H2.out.cell; have hf := (cells1 H2.out.lies).2; clear hb1 hlr))
    refine bodyPost_ret (v := .agg #[.slice none 0 0]) (by simp [results, Tryz.results106, go_sem, hc]) rfl ⟨_, [], rfl, tree_own_nil _ _, by rw [HF.out], H2.out.below.setCell (p := ⟨w.heap.size, 0, none⟩) (Nat.le_refl _) _⟩
  · have HF : Hid (treeOf l = tof l) := ⟨by simp [treeOf, hr]⟩
    have HLR := hide ((log_iff l).1 hr)
    have hl150 : l.length ≤ 150 := HLR.out.2.1
    simp only [hr] at hlr
    have hmm := @run_makeMap Tryz.prog
    go_enter Tryz.func106, Tryz.ntmps106
    go_wp2_with (first | (go_at_call 136; refine (hlr _ H1.out.below).mono ?_; rintro e w1 ⟨rfl, hb1⟩; have H2 := hide (H1.out.step hb1); clear hb1 hlr))
    clear hmm
    obtain ⟨B, hB⟩ : ∃ B, w1.heap.size = B := ⟨_, rfl⟩
    have hst : OfV w (w1.alloc (.map #[] 0)) B [] := ⟨H2.out.step ((Below.refl _ _).alloc (Nat.le_refl _) _), by rw [← hB]; exact (Array.getElem?_eq_some_iff.1 H2.out.lies).1, by rw [← hB]; exact MapAt.made w1, ⟨fun n hn => absurd hn (by simp), fun n hn => absurd hn (by simp)⟩, tree_nil⟩
    rw [hB]
    have HST := hide hst
    clear hst
    go_loopw [13] (fun i wr => ∃ (k : Nat) (d : List NodG), k ≤ l.length ∧ i = .int .i64 k ∧ d.map NodG.bare = tof (l.take k) ∧ OfV w wr B d) (fun i _ => l.length - (intOf i).toNat)
    case atStart => exact ⟨0, [], by omega, rfl, rfl, HST.out⟩
    case round =>
      obtain ⟨k, d, hk, rfl, hd, hV⟩ := hrel
      by_cases h : k < l.length
      · obtain ⟨b, off, rfl, hlt, ho⟩ := HA.out k h
        obtain ⟨c0, c1, c2, c3, c4, c5, c6⟩ := ho.block (w' := wr) (hV.box.below.block b hlt)
        have hi0 : (0 : Int) ≤ (k : Int) := by omega
        have hi1 : (k : Int) < (l.length : Int) := by omega
        have hdo := fun W (hW : Below wr.heap.size wr W) => do_any d B l[k] W hV.right (opOk_of (HLR.out.1 k h)) (hV.map.stays hW) (hV.props.stays hW)
        unfold OpV.agg at hdo
        have HDO := hide hdo
        have HV := hide hV
        have HD := hide hd
        clear ho hV hd hdo
        go_wp2_with (first | (go_at_call 142; refine (HDO.out _ ((Below.refl _ _).alloc (Nat.le_refl _) _)).mono ?_; rintro e w4 ⟨⟨v4, rfl⟩, a4, c4', hM4, hP4, hg4⟩; have HG4 := hide hg4; have HM4 := hide hM4; have HP4 := hide hP4; clear hM4 hP4 hg4))
        go_roundw
        case rel =>
          refine ⟨k + 1, tdo d l[k] a4 c4', by omega, by go_num, ?_, ⟨(HV.out.box.step ((Below.refl _ _).alloc (Nat.le_refl _) _)).turn HV.out.at_ HG4.out, HV.out.at_, HM4.out, HP4.out, tdo_right HV.out.right (opOk_of (HLR.out.1 k h)) _ _⟩⟩
          rw [tdo_bare, HD.out, tof_take h]
        case measure => simp [intOf]; omega
      · obtain rfl : k = l.length := by omega
        have HV := hide hV
        have HD : Hid (d.map NodG.bare = tof l) := ⟨by rw [List.take_length] at hd; exact hd⟩
        have H150 := hide hV.right
        clear hV hd
        go_wp2_with (first | (go_at_call 143; refine (treeM_any d B wr (by have := H150.out.1; omega) H150.out.2.1 (tree_sized H150.out) HV.out.props.at_ HV.out.map).mono ?_; rintro e w5 ⟨v5, d5, rfl, ht5, hd5, hb5⟩; obtain ⟨a5, c5, rfl, _, _⟩ := owns_atN ht5.row; have H6 := hide (HV.out.box.step hb5); have HT5 := hide ht5; have HD5 := hide hd5; have hr := H6.out.cell; have hf := (cells1 H6.out.lies).2; clear ht5 hd5))
        have hw5 : w.heap.size < wr.heap.size := (Array.getElem?_eq_some_iff.1 HV.out.box.lies).1
        refine bodyPost_ret (v := .agg #[.slice a5 d5.length c5]) (by simp [results, Tryz.results106, go_sem, hr]) rfl ⟨_, d5, rfl, ?_, by rw [HF.out, HD5.out, ← HD.out, List.map_map]; rfl, H6.out.below.setCell (p := ⟨w.heap.size, 0, none⟩) (Nat.le_refl _) _⟩
        refine (HT5.out.moved (fun g hg => ?_)).lower (Nat.le_of_lt hw5)
        exact Below.heap_setCell _ _ _ _ (by simp; omega)
end Go.Proofs.YtfkgmkcndchkjaaGreatDoor.OpR
namespace Go.Proofs.YtfkgmkcndchkjaaGreatDoor.OpR
open Go.ChangeShapes Go.WideShapes Go.ChangeAt Go.RowKit
set_option linter.unusedVariables false

/-- What a client is when it has put an op of its own. -/
def putC (c : CliV) (o : OpV) : CliV := ⟨c.repl, o.time, c.log ++ [o], c.acked, c.out ++ [o], c.got⟩
/-- Whether an op finds its place. -/
def admit (l : List OpV) (o : OpV) : Int := if o.kind = 1 then mayCode (tof l) o.node o.parent else (if (nodOf (tof l) o.node).isSome then 0 else 6)
/-- What is told of an op (with its stamp) that is to be put. -/
def actRes (c : CliV) (o : OpV) : OutV :=
  if 8000 < o.name.size ∨ 8000 < o.value.size then OutV.ill 2
  else if cliRight c = false then OutV.ill 1
  else if c.clock = 1000000 then OutV.ill 9
  else if opRight o = false then OutV.ill 1
  else if admit c.log o ≠ 0 then OutV.ill (admit c.log o)
  else if 30 ≤ c.out.length ∨ 150 ≤ c.log.length then OutV.ill 9
  else ⟨putC c o, o, 0, 0⟩
def stampO (c : CliV) (kind node parent : Int) (name value : ByteArray) : OpV := ⟨c.clock + 1, c.repl, kind, node, parent, name, value⟩
theorem act_size {c : CliV} {o : OpV} (h : 8000 < o.name.size ∨ 8000 < o.value.size) : actRes c o = OutV.ill 2 := if_pos h
section
variable {c : CliV} {o : OpV} (h0 : ¬ (8000 < o.name.size ∨ 8000 < o.value.size))
include h0
theorem act_form (h1 : cliRight c = false) : actRes c o = OutV.ill 1 := by unfold actRes; rw [if_neg h0, if_pos h1]
variable (h1 : cliRight c = true)
include h1
theorem act_time (h2 : c.clock = 1000000) : actRes c o = OutV.ill 9 := by unfold actRes; rw [if_neg h0, if_neg (by rw [h1]; decide), if_pos h2]
variable (h2 : ¬ c.clock = 1000000)
include h2
theorem act_wrong (h3 : opRight o = false) : actRes c o = OutV.ill 1 := by unfold actRes; rw [if_neg h0, if_neg (by rw [h1]; decide), if_neg h2, if_pos h3]
variable (h3 : opRight o = true)
include h3
theorem act_place (h4 : admit c.log o ≠ 0) : actRes c o = OutV.ill (admit c.log o) := by unfold actRes; rw [if_neg h0, if_neg (by rw [h1]; decide), if_neg h2, if_neg (by rw [h3]; decide), if_pos h4]
variable (h4 : admit c.log o = 0)
include h4
theorem act_full (h5 : 30 ≤ c.out.length ∨ 150 ≤ c.log.length) : actRes c o = OutV.ill 9 := by unfold actRes; rw [if_neg h0, if_neg (by rw [h1]; decide), if_neg h2, if_neg (by rw [h3]; decide), if_neg (by rw [h4]; decide), if_pos h5]
theorem act_put (h5 : ¬ (30 ≤ c.out.length ∨ 150 ≤ c.log.length)) : actRes c o = ⟨putC c o, o, 0, 0⟩ := by unfold actRes; rw [if_neg h0, if_neg (by rw [h1]; decide), if_neg h2, if_neg (by rw [h3]; decide), if_neg (by rw [h4]; decide), if_neg h5]
end
end Go.Proofs.YtfkgmkcndchkjaaGreatDoor.OpR
namespace Go.Proofs.YtfkgmkcndchkjaaGreatDoor.OpR
open Go.ChangeShapes Go.WideShapes Go.ChangeAt Go.RowKit
set_option linter.unusedVariables false

theorem Box1.skip {w c c' : World} {g : Nat} {v : Value} {T : TypeId} {o : Obj} (h : Box1 w c g v T) (hb : Below (c.alloc o).heap.size (c.alloc o) c') : Box1 w c' g v T := (h.step ((Below.refl _ _).alloc (Nat.le_refl _) o)).step hb
theorem MapAt.skip {c c' : World} {B : Nat} {m : List (Int × NodG)} {o : Obj} (h : MapAt c B m) (hb : Below (c.alloc o).heap.size (c.alloc o) c') : MapAt c' B m := (h.stays ((Below.refl _ _).alloc (Nat.le_refl _) o)).stays hb
set_option maxRecDepth 100000 in
set_option maxHeartbeats 1000000 in
theorem iAbove_any (l : List NodG) (ao : Option Addr) (cap : Nat) (x y : Int) (w : World) (hl : l.length ≤ 1048576) (hg : Rng l) (hx : In64 x) (hA : NodesAt w ao l) (hS : ∀ n ∈ l, Sized1 1048576 n) :
    Calls Tryz.prog 110 #[.agg #[.slice ao l.length cap], .int .i64 x, .int .i64 y] w fun e w' => e = .returned (.bool (aboveB l x y)) ∧ Below w.heap.size w w' := by
  have htr := fun W (hW : Below w.heap.size w W) => iTree_any l ao cap W hl hg (hA.stays hW) hS
  have H1 := hide (Box1.start w (.slice ao l.length cap) 72)
  have HA := hide hA
  have HG := hide hg
  have HX := hide hx
  clear hA hS hg hx
  cases ht : treeRight l
  · have HF : Hid (aboveB l x y = false) := ⟨by simp [aboveB, ht]⟩
    simp only [ht] at htr
    go_enter Tryz.func110, Tryz.ntmps110
    go_wp2_with (first | (go_at_call 144; refine (htr _ H1.out.below).mono ?_; rintro e w1 ⟨rfl, hb1⟩))
    go_ret
    exact ⟨ret_bool (by rw [HF.out]), (H1.out.step hb1).below⟩
  · have HTR := hide ((treeR_iff l).1 ht)
    have hno := fun W (hW : Below w.heap.size w W) => nodesOf_any l ao cap W hl HTR.out.2.1 HG.out (HA.out.stays hW)
    have HNO := hide hno
    simp only [ht] at htr
    clear hno
    cases hn : nodOf l x with
    | none =>
      have HF : Hid (aboveB l x y = false) := ⟨by simp [aboveB, hn]⟩
      have HN : Hid (kvAt (kvOf l) x = none) := ⟨by rw [kvAt_of]; exact hn⟩
      clear ht hn
      go_enter Tryz.func110, Tryz.ntmps110
      go_wp2_with (first | (go_at_call 144; refine (htr _ H1.out.below).mono ?_; rintro e w1 ⟨rfl, hb1⟩; have hbx := H1.out.step hb1; have H2 := hide hbx; have hc := hbx.cell; clear hbx hb1) | (go_at_call 107; refine (HNO.out _ H2.out.below).mono ?_; rintro e w2 ⟨B, rfl, hB, hM2, hb2⟩; have hbx := H2.out.step hb2; have H3 := hide hbx; have HM := hide hM2; clear hbx hb2 hM2 hc) | (at_lookup; refine wpList_look_none _ rfl _ _ rfl B (kvOf l) rfl HM.out x HX.out rfl HN.out ?_) | go_in)
      go_ret
      exact ⟨ret_bool (by rw [HF.out]), H3.out.below.alloc H3.out.below.size _⟩
    | some n =>
      have HF : Hid (aboveB l x y = abF (kvPar (kvOf l)) y ((kvOf l).length + 1) x) := ⟨by simp [aboveB, hn, ht, kvPar_of, kvOf_len]⟩
      have HN : Hid (kvAt (kvOf l) x = some n) := ⟨by rw [kvAt_of]; exact hn⟩
      clear ht hn
      go_enter Tryz.func110, Tryz.ntmps110
      go_wp2_with (first | (go_at_call 144; refine (htr _ H1.out.below).mono ?_; rintro e w1 ⟨rfl, hb1⟩; have hbx := H1.out.step hb1; have H2 := hide hbx; have hc := hbx.cell; clear hbx hb1) | (go_at_call 107; refine (HNO.out _ H2.out.below).mono ?_; rintro e w2 ⟨B, rfl, hB, hM2, hb2⟩; have hbx := H2.out.step hb2; have H3 := hide hbx; have HM := hide hM2; clear hbx hb2 hM2 hc) | (at_lookup; refine wpList_look_some _ rfl _ _ rfl B (kvOf l) rfl HM.out x HX.out rfl n HN.out ?_) | (go_at_call 145; refine (above_any B _).mono ?_; rintro e w5 ⟨rfl, hv5, hb5⟩; have HV5 : Hid (w5.heap[w2.heap.size + 1]? = some (.cells #[.map (some B)] 138 (0, 0))) := ⟨by simpa using hv5⟩; have H4 := hide (H3.out.skip hb5); have HM5 := hide (HM.out.skip hb5); clear hv5 hb5) | (go_at_call 171; refine (aboveIn_any (kvOf l) _ B x y w5 (by rw [kvOf_len]; exact hl) (rngM_of HG.out) HX.out HV5.out HM5.out).mono ?_; rintro e w6 ⟨rfl, hb6⟩) | go_in)
      go_ret
      exact ⟨ret_bool (by rw [HF.out]), (H4.out.step hb6).below⟩
end Go.Proofs.YtfkgmkcndchkjaaGreatDoor.OpR
namespace Go.Proofs.YtfkgmkcndchkjaaGreatDoor.OpR
open Go.ChangeShapes Go.WideShapes Go.ChangeAt Go.RowKit
set_option linter.unusedVariables false

set_option maxRecDepth 100000 in
set_option maxHeartbeats 400000 in
theorem has_any (B : Nat) (m : List (Int × NodG)) (x : Int) (b : Bool) (w : World) (hM : MapAt w B m) (hx : In64 x) (hb : (kvAt m x).isSome = b) :
    Calls Tryz.prog 108 #[.map (some B), .int .i64 x] w fun e w' => e = .returned (.bool b) ∧ Below w.heap.size w w' := by
  have HM := hide hM
  have HX := hide hx
  cases hn : kvAt m x with
  | none =>
    have HN := hide hn
    obtain rfl : b = false := by rw [← hb, hn]; rfl
    clear hM hx hn hb
    go_enter Tryz.func108, Tryz.ntmps108
    go_wp2_with (first | (at_lookup; refine wpList_look_none _ rfl _ _ rfl B m rfl HM.out x HX.out rfl HN.out ?_) | fail)
    go_ret
    exact ⟨rfl, (Below.refl _ _).alloc (Nat.le_refl _) _⟩
  | some n =>
    have HN := hide hn
    obtain rfl : b = true := by rw [← hb, hn]; rfl
    clear hM hx hn hb
    go_enter Tryz.func108, Tryz.ntmps108
    go_wp2_with (first | (at_lookup; refine wpList_look_some _ rfl _ _ rfl B m rfl HM.out x HX.out rfl n HN.out ?_) | fail)
    go_ret
    exact ⟨rfl, (Below.refl _ _).alloc (Nat.le_refl _) _⟩
set_option maxRecDepth 100000 in
set_option maxHeartbeats 400000 in
theorem hasBelow_any (B : Nat) (m : List (Int × NodG)) (x : Int) (b : Bool) (w : World) (hM : MapAt w B m) (hx : In64 x) (hb : (decide (x = 0) || (decide (x = 1) || (kvAt m x).isSome)) = b) :
    Calls Tryz.prog 109 #[.map (some B), .int .i64 x] w fun e w' => e = .returned (.bool b) ∧ Below w.heap.size w w' := by
  by_cases h0 : x = 0
  · subst h0
    obtain rfl : b = true := by rw [← hb]; rfl
    clear hM hx hb
    go_enter Tryz.func109, Tryz.ntmps109
    go_wp2
    go_ret
    exact ⟨rfl, Below.refl _ _⟩
  by_cases h1 : x = 1
  · subst h1
    obtain rfl : b = true := by rw [← hb]; rfl
    clear hM hx hb h0
    go_enter Tryz.func109, Tryz.ntmps109
    go_wp2
    go_ret
    exact ⟨rfl, Below.refl _ _⟩
  have e0 : (x == 0) = false := by simpa using h0
  have e1 : (x == 1) = false := by simpa using h1
  have hb2 : (kvAt m x).isSome = b := by rw [← hb]; simp [h0, h1]
  have HH := hide (has_any B m x b w hM hx hb2)
  clear hM hx hb hb2 h0 h1
  go_enter Tryz.func109, Tryz.ntmps109
  go_wp2_with (first | (go_at_call 108; (refine HH.out.mono ?_); rintro e w1 ⟨rfl, hb1⟩) | fail)
  go_ret
  exact ⟨rfl, hb1⟩
theorem nodOf_alike {l d : List NodG} (h : d.map NodG.bare = l.map NodG.bare) (x : Int) : (nodOf d x).isSome = (nodOf l x).isSome := by
  have h1 := nodOf_bare d x
  rw [h, nodOf_bare l x] at h1
  have := congrArg Option.isSome h1
  simpa using this.symm
theorem place_alike {l d : List NodG} (h : d.map NodG.bare = l.map NodG.bare) (x : Int) : placeB d x = placeB l x := by unfold placeB; rw [nodOf_alike h]
theorem par_alike {l d : List NodG} (h : d.map NodG.bare = l.map NodG.bare) : par d = par l := by rw [← par_bare d, h, par_bare]
theorem above_alike' {l d : List NodG} (h : d.map NodG.bare = l.map NodG.bare) (x y : Int) : aboveB d x y = aboveB l x y := by
  unfold aboveB
  rw [tree_alike h, nodOf_alike h, par_alike h, bare_len h]
theorem may_alike {l d : List NodG} (h : d.map NodG.bare = l.map NodG.bare) (x p : Int) : mayCode d x p = mayCode l x p := by
  unfold mayCode
  rw [place_alike h, par_alike h, bare_len h]
theorem may_is {l : List NodG} (ht : TreeR l) {x : Int} (hx : 2 ≤ x) (p : Int) : mayCode l x p = if placeB l p then (if aboveB l p x then 10 else 0) else 6 := by
  unfold mayCode
  cases hp : placeB l p
  · rfl
  · have e : (decide (p = x) || abF (par l) x (l.length + 1) p) = aboveB l p x := by
      have htr : treeRight l = true := (treeR_iff l).2 ht
      unfold aboveB
      rw [htr, Bool.true_and]
      cases hn : nodOf l p with
      | none =>
        have h01 : p = 0 ∨ p = 1 := by
          unfold placeB at hp
          rw [hn] at hp
          simpa using hp
        have hpx : ¬ p = x := by omega
        simp [hpx, abF, par, hn]
      | some n =>
        by_cases hpx : p = x
        · subst hpx; simp [abF]
        · simp [hpx]
    rw [e]
theorem tree_of_log {l : List OpV} (hl : logRight l = true) {d : List NodG} (h : d.map NodG.bare = (treeOf l).map NodG.bare) : d.map NodG.bare = (tof l).map NodG.bare ∧ TreeR d := by
  have e : treeOf l = tof l := by unfold treeOf; rw [if_pos hl]
  rw [e] at h
  refine ⟨h, (treeR_iff d).1 ?_⟩
  rw [tree_alike h, treeR_iff]
  have := tof_right ((log_iff l).1 hl).1 l.length (Nat.le_refl _)
  rwa [List.take_length] at this
/-- A deed in a variable, and a tree in one. -/
structure AdB (w W : World) (o : OpV) : Prop where
  op : W.heap[w.heap.size]? = some (.cells #[.int .i64 o.time, .int .i64 o.repl, .int .i64 o.kind, .int .i64 o.node, .int .i64 o.parent, .string o.name, .string o.value] 30 (0, 0))
  below : Below w.heap.size w W
theorem AdB.new (w : World) (o : OpV) : AdB w (w.alloc (.cells #[.int .i64 o.time, .int .i64 o.repl, .int .i64 o.kind, .int .i64 o.node, .int .i64 o.parent, .string o.name, .string o.value] 30)) o := ⟨heap_alloc_new w _, (Below.refl _ _).alloc (Nat.le_refl _) _⟩
theorem AdB.step {w W W' : World} {o : OpV} (h : AdB w W o) (hb : Below W.heap.size W W') : AdB w W' o := ⟨(hb.block _ (Array.getElem?_eq_some_iff.1 h.op).1).trans h.op, h.below.trans (hb.mono h.below.size)⟩
theorem AdB.cells {w W : World} {o : OpV} (h : AdB w W o) : W.cell? ⟨w.heap.size, 2, none⟩ = some (.int .i64 o.kind) ∧ W.cell? ⟨w.heap.size, 3, none⟩ = some (.int .i64 o.node) ∧ W.cell? ⟨w.heap.size, 4, none⟩ = some (.int .i64 o.parent) := by
  have e := h.op
  refine ⟨?_, ?_, ?_⟩ <;> simp [World.cell?, e]
theorem cell1_ {W : World} {g : Nat} {v : Value} {T : TypeId} (h : W.heap[g]? = some (.cells #[v] T (0, 0))) : W.cell? ⟨g, 0, none⟩ = some v := by simp [World.cell?, h]
set_option maxRecDepth 100000 in
set_option maxHeartbeats 1000000 in
theorem admits_set_yes (l : List OpV) (o : OpV) (ao : Option Addr) (cap : Nat) (w : World) {f : Nat → Addr} (hS : Sents w f) (hl : logRight l = true) (ho : opRight o = true) (hA : OpsAt w ao l) (hSz : Sized l) (hk : o.kind = 2) (hq : (nodOf (tof l) o.node).isSome = true) :
    Calls Tryz.prog 77 #[.slice ao l.length cap, o.agg] w fun e w' => e = .returned .nilIface ∧ Below w.heap.size w w' := by
  have hto := fun W (hW : Below w.heap.size w W) => iTreeOf_any l ao cap W (by have := ((log_iff l).1 hl).2.1; unfold maxLen; omega) (hA.stays hW) hSz
  have htr := fun (d : List NodG) (h : d.map NodG.bare = (treeOf l).map NodG.bare) => tree_of_log hl h
  have hX : In64 o.node ∧ In64 o.parent := by
    unfold opRight at ho
    rw [Bool.and_eq_true, Bool.and_eq_true, Bool.and_eq_true, Bool.and_eq_true] at ho
    obtain ⟨⟨⟨⟨_, _⟩, h3⟩, _⟩, h5⟩ := ho
    unfold kindRight at h5
    rw [hk] at h5
    simp [isIn] at h3 h5
    unfold In64
    omega
  have HX := hide hX
  have HTo := hide hto
  have HTr := hide htr
  have HQ := hide hq
  have k1 : (o.kind == 2) = true := by rw [hk]; rfl
  have k2 : (o.kind == 1) = false := by rw [hk]; rfl
  have HB0 := hide (AdB.new w o)
  obtain ⟨o2, o3, o4⟩ := HB0.out.cells
  unfold OpV.agg at *
  clear hto htr hX hl ho hA hSz hq hk hS
  go_enter Tryz.func77, Tryz.ntmps77
  go_wp2_with (first | (go_at_call 106; (refine (HTo.out _ HB0.out.below).mono ?_); rintro e w1 ⟨v, d, rfl, hto, hdb, hb1⟩; obtain ⟨ao1, c1, rfl, hc1, _⟩ := owns_atN hto.row; obtain ⟨hal, htr⟩ := HTr.out d hdb; have HB1 := hide ((HB0.out.step hb1).step ((Below.refl _ _).alloc (Nat.le_refl _) (.cells #[.slice ao1 d.length c1] 72))); have HTn := hide (hto.nodesAt); have HAl := hide hal; have HTR := hide htr; have HBx : Hid ((w1.alloc (.cells #[.slice ao1 d.length c1] 72)).heap[w1.heap.size]? = some (.cells #[.slice ao1 d.length c1] 72 (0, 0))) := ⟨heap_alloc_new w1 _⟩; clear o2 o3 o4 hto hdb hb1 hal htr hc1; obtain ⟨o2, o3, o4⟩ := HB1.out.cells) | (go_at_call 107; (refine (nodesOf_any d ao1 c1 _ (by have := HTR.out.1; omega) HTR.out.2.1 (tree_rng HTR.out) (HTn.out.stays ((Below.refl _ w1).alloc (Nat.le_refl _) _))).mono ?_); rintro e w2 ⟨B, rfl, _, hM2, hb2⟩; have HB2 := hide (HB1.out.step hb2); have HM := hide hM2; have HBx2 := hide ((hb2.block _ (Array.getElem?_eq_some_iff.1 HBx.out).1).trans HBx.out); have HTn2 := hide ((HTn.out.stays ((Below.refl _ w1).alloc (Nat.le_refl _) (.cells #[.slice ao1 d.length c1] 72))).stays hb2); clear o2 o3 o4 hM2 hb2; obtain ⟨o2, o3, o4⟩ := HB2.out.cells; have t0 := cell1_ HBx2.out) | (go_at_call 108; (refine (has_any B (kvOf d) o.node true _ HM.out HX.out.1 (by rw [kvAt_of]; exact (nodOf_alike HAl.out o.node).trans HQ.out)).mono ?_); rintro e w3 ⟨rfl, hb3⟩; have HB3 := hide (HB2.out.step hb3); clear o2 o3 o4 t0 hb3; obtain ⟨o2, o3, o4⟩ := HB3.out.cells) | fail)
  go_ret
  exact ⟨rfl, HB3.out.below⟩
set_option maxRecDepth 100000 in
set_option maxHeartbeats 1000000 in
theorem admits_set_no (l : List OpV) (o : OpV) (ao : Option Addr) (cap : Nat) (w : World) {f : Nat → Addr} (hS : Sents w f) (hl : logRight l = true) (ho : opRight o = true) (hA : OpsAt w ao l) (hSz : Sized l) (hk : o.kind = 2) (hq : (nodOf (tof l) o.node).isSome = false) :
    Calls Tryz.prog 77 #[.slice ao l.length cap, o.agg] w fun e w' => e = .returned (errV f (gOf 6)) ∧ Below w.heap.size w w' := by
  have hto := fun W (hW : Below w.heap.size w W) => iTreeOf_any l ao cap W (by have := ((log_iff l).1 hl).2.1; unfold maxLen; omega) (hA.stays hW) hSz
  have htr := fun (d : List NodG) (h : d.map NodG.bare = (treeOf l).map NodG.bare) => tree_of_log hl h
  have hX : In64 o.node ∧ In64 o.parent := by
    unfold opRight at ho
    rw [Bool.and_eq_true, Bool.and_eq_true, Bool.and_eq_true, Bool.and_eq_true] at ho
    obtain ⟨⟨⟨⟨_, _⟩, h3⟩, _⟩, h5⟩ := ho
    unfold kindRight at h5
    rw [hk] at h5
    simp [isIn] at h3 h5
    unfold In64
    omega
  have HX := hide hX
  have HTo := hide hto
  have HTr := hide htr
  have HQ := hide hq
  have hv := fun W (hW : Below w.heap.size w W) => (hS.step hW).var 3 (by omega)
  have HV := hide hv
  rw [show gOf 6 = 3 from rfl]
  have k1 : (o.kind == 2) = true := by rw [hk]; rfl
  have k2 : (o.kind == 1) = false := by rw [hk]; rfl
  have HB0 := hide (AdB.new w o)
  obtain ⟨o2, o3, o4⟩ := HB0.out.cells
  unfold OpV.agg errV at *
  clear hto htr hX hl ho hA hSz hq hk hv hS
  go_enter Tryz.func77, Tryz.ntmps77
  go_wp2_with (first | (go_at_call 106; (refine (HTo.out _ HB0.out.below).mono ?_); rintro e w1 ⟨v, d, rfl, hto, hdb, hb1⟩; obtain ⟨ao1, c1, rfl, hc1, _⟩ := owns_atN hto.row; obtain ⟨hal, htr⟩ := HTr.out d hdb; have HB1 := hide ((HB0.out.step hb1).step ((Below.refl _ _).alloc (Nat.le_refl _) (.cells #[.slice ao1 d.length c1] 72))); have HTn := hide (hto.nodesAt); have HAl := hide hal; have HTR := hide htr; have HBx : Hid ((w1.alloc (.cells #[.slice ao1 d.length c1] 72)).heap[w1.heap.size]? = some (.cells #[.slice ao1 d.length c1] 72 (0, 0))) := ⟨heap_alloc_new w1 _⟩; clear o2 o3 o4 hto hdb hb1 hal htr hc1; obtain ⟨o2, o3, o4⟩ := HB1.out.cells) | (go_at_call 107; (refine (nodesOf_any d ao1 c1 _ (by have := HTR.out.1; omega) HTR.out.2.1 (tree_rng HTR.out) (HTn.out.stays ((Below.refl _ w1).alloc (Nat.le_refl _) _))).mono ?_); rintro e w2 ⟨B, rfl, _, hM2, hb2⟩; have HB2 := hide (HB1.out.step hb2); have HM := hide hM2; have HBx2 := hide ((hb2.block _ (Array.getElem?_eq_some_iff.1 HBx.out).1).trans HBx.out); have HTn2 := hide ((HTn.out.stays ((Below.refl _ w1).alloc (Nat.le_refl _) (.cells #[.slice ao1 d.length c1] 72))).stays hb2); clear o2 o3 o4 hM2 hb2; obtain ⟨o2, o3, o4⟩ := HB2.out.cells; have t0 := cell1_ HBx2.out) | (go_at_call 108; (refine (has_any B (kvOf d) o.node false _ HM.out HX.out.1 (by rw [kvAt_of]; exact (nodOf_alike HAl.out o.node).trans HQ.out)).mono ?_); rintro e w3 ⟨rfl, hb3⟩; have HB3 := hide (HB2.out.step hb3); clear o2 o3 o4 t0 hb3; obtain ⟨o2, o3, o4⟩ := HB3.out.cells; have q1 := HV.out _ HB3.out.below) | fail)
  go_ret
  exact ⟨rfl, HB3.out.below⟩
set_option maxRecDepth 100000 in
set_option maxHeartbeats 1000000 in
theorem admits_mv_no (l : List OpV) (o : OpV) (ao : Option Addr) (cap : Nat) (w : World) {f : Nat → Addr} (hS : Sents w f) (hl : logRight l = true) (ho : opRight o = true) (hA : OpsAt w ao l) (hSz : Sized l) (hk : o.kind = 1) (hq : placeB (tof l) o.parent = false) :
    Calls Tryz.prog 77 #[.slice ao l.length cap, o.agg] w fun e w' => e = .returned (errV f (gOf 6)) ∧ Below w.heap.size w w' := by
  have hto := fun W (hW : Below w.heap.size w W) => iTreeOf_any l ao cap W (by have := ((log_iff l).1 hl).2.1; unfold maxLen; omega) (hA.stays hW) hSz
  have htr := fun (d : List NodG) (h : d.map NodG.bare = (treeOf l).map NodG.bare) => tree_of_log hl h
  have hX : In64 o.node ∧ In64 o.parent := by
    unfold opRight at ho
    rw [Bool.and_eq_true, Bool.and_eq_true, Bool.and_eq_true, Bool.and_eq_true] at ho
    obtain ⟨⟨⟨⟨_, _⟩, h3⟩, _⟩, h5⟩ := ho
    unfold kindRight at h5
    rw [hk] at h5
    simp [isIn] at h3 h5
    unfold In64
    omega
  have HX := hide hX
  have HTo := hide hto
  have HTr := hide htr
  have HQ := hide hq
  have hv := fun W (hW : Below w.heap.size w W) => (hS.step hW).var 3 (by omega)
  have HV := hide hv
  rw [show gOf 6 = 3 from rfl]
  have k1 : (o.kind == 2) = false := by rw [hk]; rfl
  have k2 : (o.kind == 1) = true := by rw [hk]; rfl
  have HB0 := hide (AdB.new w o)
  obtain ⟨o2, o3, o4⟩ := HB0.out.cells
  unfold OpV.agg errV at *
  clear hto htr hX hl ho hA hSz hq hk hv hS
  go_enter Tryz.func77, Tryz.ntmps77
  go_wp2_with (first | (go_at_call 106; (refine (HTo.out _ HB0.out.below).mono ?_); rintro e w1 ⟨v, d, rfl, hto, hdb, hb1⟩; obtain ⟨ao1, c1, rfl, hc1, _⟩ := owns_atN hto.row; obtain ⟨hal, htr⟩ := HTr.out d hdb; have HB1 := hide ((HB0.out.step hb1).step ((Below.refl _ _).alloc (Nat.le_refl _) (.cells #[.slice ao1 d.length c1] 72))); have HTn := hide (hto.nodesAt); have HAl := hide hal; have HTR := hide htr; have HBx : Hid ((w1.alloc (.cells #[.slice ao1 d.length c1] 72)).heap[w1.heap.size]? = some (.cells #[.slice ao1 d.length c1] 72 (0, 0))) := ⟨heap_alloc_new w1 _⟩; clear o2 o3 o4 hto hdb hb1 hal htr hc1; obtain ⟨o2, o3, o4⟩ := HB1.out.cells) | (go_at_call 107; (refine (nodesOf_any d ao1 c1 _ (by have := HTR.out.1; omega) HTR.out.2.1 (tree_rng HTR.out) (HTn.out.stays ((Below.refl _ w1).alloc (Nat.le_refl _) _))).mono ?_); rintro e w2 ⟨B, rfl, _, hM2, hb2⟩; have HB2 := hide (HB1.out.step hb2); have HM := hide hM2; have HBx2 := hide ((hb2.block _ (Array.getElem?_eq_some_iff.1 HBx.out).1).trans HBx.out); have HTn2 := hide ((HTn.out.stays ((Below.refl _ w1).alloc (Nat.le_refl _) (.cells #[.slice ao1 d.length c1] 72))).stays hb2); clear o2 o3 o4 hM2 hb2; obtain ⟨o2, o3, o4⟩ := HB2.out.cells; have t0 := cell1_ HBx2.out) | (go_at_call 109; (refine (hasBelow_any B (kvOf d) o.parent false _ HM.out HX.out.2 (by rw [kvAt_of]; exact (place_alike HAl.out o.parent).trans HQ.out)).mono ?_); rintro e w3 ⟨rfl, hb3⟩; have HB3 := hide (HB2.out.step hb3); have HBx3 := hide ((hb3.block _ (Array.getElem?_eq_some_iff.1 HBx2.out).1).trans HBx2.out); have HTn3 := hide (HTn2.out.stays hb3); clear o2 o3 o4 t0 hb3; obtain ⟨o2, o3, o4⟩ := HB3.out.cells; have t0 := cell1_ HBx3.out; have q1 := HV.out _ HB3.out.below) | fail)
  go_ret
  exact ⟨rfl, HB3.out.below⟩
set_option maxRecDepth 100000 in
set_option maxHeartbeats 1000000 in
theorem admits_mv_loop (l : List OpV) (o : OpV) (ao : Option Addr) (cap : Nat) (w : World) {f : Nat → Addr} (hS : Sents w f) (hl : logRight l = true) (ho : opRight o = true) (hA : OpsAt w ao l) (hSz : Sized l) (hk : o.kind = 1) (hq : placeB (tof l) o.parent = true) (hq2 : aboveB (tof l) o.parent o.node = true) :
    Calls Tryz.prog 77 #[.slice ao l.length cap, o.agg] w fun e w' => e = .returned (errV f (gOf 10)) ∧ Below w.heap.size w w' := by
  have hto := fun W (hW : Below w.heap.size w W) => iTreeOf_any l ao cap W (by have := ((log_iff l).1 hl).2.1; unfold maxLen; omega) (hA.stays hW) hSz
  have htr := fun (d : List NodG) (h : d.map NodG.bare = (treeOf l).map NodG.bare) => tree_of_log hl h
  have hX : In64 o.node ∧ In64 o.parent := by
    unfold opRight at ho
    rw [Bool.and_eq_true, Bool.and_eq_true, Bool.and_eq_true, Bool.and_eq_true] at ho
    obtain ⟨⟨⟨⟨_, _⟩, h3⟩, _⟩, h5⟩ := ho
    unfold kindRight at h5
    rw [hk] at h5
    simp [isIn] at h3 h5
    unfold In64
    omega
  have HX := hide hX
  have HTo := hide hto
  have HTr := hide htr
  have HQ := hide hq
  have HQ2 := hide hq2
  have hv := fun W (hW : Below w.heap.size w W) => (hS.step hW).var 4 (by omega)
  have HV := hide hv
  rw [show gOf 10 = 4 from rfl]
  have k1 : (o.kind == 2) = false := by rw [hk]; rfl
  have k2 : (o.kind == 1) = true := by rw [hk]; rfl
  have HB0 := hide (AdB.new w o)
  obtain ⟨o2, o3, o4⟩ := HB0.out.cells
  unfold OpV.agg errV at *
  clear hto htr hX hl ho hA hSz hq hk hq2 hv hS
  go_enter Tryz.func77, Tryz.ntmps77
  go_wp2_with (first | (go_at_call 106; (refine (HTo.out _ HB0.out.below).mono ?_); rintro e w1 ⟨v, d, rfl, hto, hdb, hb1⟩; obtain ⟨ao1, c1, rfl, hc1, _⟩ := owns_atN hto.row; obtain ⟨hal, htr⟩ := HTr.out d hdb; have HB1 := hide ((HB0.out.step hb1).step ((Below.refl _ _).alloc (Nat.le_refl _) (.cells #[.slice ao1 d.length c1] 72))); have HTn := hide (hto.nodesAt); have HAl := hide hal; have HTR := hide htr; have HBx : Hid ((w1.alloc (.cells #[.slice ao1 d.length c1] 72)).heap[w1.heap.size]? = some (.cells #[.slice ao1 d.length c1] 72 (0, 0))) := ⟨heap_alloc_new w1 _⟩; clear o2 o3 o4 hto hdb hb1 hal htr hc1; obtain ⟨o2, o3, o4⟩ := HB1.out.cells) | (go_at_call 107; (refine (nodesOf_any d ao1 c1 _ (by have := HTR.out.1; omega) HTR.out.2.1 (tree_rng HTR.out) (HTn.out.stays ((Below.refl _ w1).alloc (Nat.le_refl _) _))).mono ?_); rintro e w2 ⟨B, rfl, _, hM2, hb2⟩; have HB2 := hide (HB1.out.step hb2); have HM := hide hM2; have HBx2 := hide ((hb2.block _ (Array.getElem?_eq_some_iff.1 HBx.out).1).trans HBx.out); have HTn2 := hide ((HTn.out.stays ((Below.refl _ w1).alloc (Nat.le_refl _) (.cells #[.slice ao1 d.length c1] 72))).stays hb2); clear o2 o3 o4 hM2 hb2; obtain ⟨o2, o3, o4⟩ := HB2.out.cells; have t0 := cell1_ HBx2.out) | (go_at_call 109; (refine (hasBelow_any B (kvOf d) o.parent true _ HM.out HX.out.2 (by rw [kvAt_of]; exact (place_alike HAl.out o.parent).trans HQ.out)).mono ?_); rintro e w3 ⟨rfl, hb3⟩; have HB3 := hide (HB2.out.step hb3); have HBx3 := hide ((hb3.block _ (Array.getElem?_eq_some_iff.1 HBx2.out).1).trans HBx2.out); have HTn3 := hide (HTn2.out.stays hb3); clear o2 o3 o4 t0 hb3; obtain ⟨o2, o3, o4⟩ := HB3.out.cells; have t0 := cell1_ HBx3.out) | (go_at_call 110; have hab := iAbove_any d ao1 c1 o.parent o.node w3 (by have := HTR.out.1; omega) (tree_rng HTR.out) HX.out.2 HTn3.out (tree_sized HTR.out); rw [(above_alike' HAl.out o.parent o.node).trans HQ2.out] at hab; (refine hab.mono ?_); rintro e w4 ⟨rfl, hb4⟩; have HB4 := hide (HB3.out.step hb4); clear o2 o3 o4 t0 hb4 hab; obtain ⟨o2, o3, o4⟩ := HB4.out.cells; have q1 := HV.out _ HB4.out.below) | fail)
  go_ret
  exact ⟨rfl, HB4.out.below⟩
set_option maxRecDepth 100000 in
set_option maxHeartbeats 1000000 in
theorem admits_mv_yes (l : List OpV) (o : OpV) (ao : Option Addr) (cap : Nat) (w : World) {f : Nat → Addr} (hS : Sents w f) (hl : logRight l = true) (ho : opRight o = true) (hA : OpsAt w ao l) (hSz : Sized l) (hk : o.kind = 1) (hq : placeB (tof l) o.parent = true) (hq2 : aboveB (tof l) o.parent o.node = false) :
    Calls Tryz.prog 77 #[.slice ao l.length cap, o.agg] w fun e w' => e = .returned .nilIface ∧ Below w.heap.size w w' := by
  have hto := fun W (hW : Below w.heap.size w W) => iTreeOf_any l ao cap W (by have := ((log_iff l).1 hl).2.1; unfold maxLen; omega) (hA.stays hW) hSz
  have htr := fun (d : List NodG) (h : d.map NodG.bare = (treeOf l).map NodG.bare) => tree_of_log hl h
  have hX : In64 o.node ∧ In64 o.parent := by
    unfold opRight at ho
    rw [Bool.and_eq_true, Bool.and_eq_true, Bool.and_eq_true, Bool.and_eq_true] at ho
    obtain ⟨⟨⟨⟨_, _⟩, h3⟩, _⟩, h5⟩ := ho
    unfold kindRight at h5
    rw [hk] at h5
    simp [isIn] at h3 h5
    unfold In64
    omega
  have HX := hide hX
  have HTo := hide hto
  have HTr := hide htr
  have HQ := hide hq
  have HQ2 := hide hq2
  have k1 : (o.kind == 2) = false := by rw [hk]; rfl
  have k2 : (o.kind == 1) = true := by rw [hk]; rfl
  have HB0 := hide (AdB.new w o)
  obtain ⟨o2, o3, o4⟩ := HB0.out.cells
  unfold OpV.agg at *
  clear hto htr hX hl ho hA hSz hq hk hq2 hS
  go_enter Tryz.func77, Tryz.ntmps77
  go_wp2_with (first | (go_at_call 106; (refine (HTo.out _ HB0.out.below).mono ?_); rintro e w1 ⟨v, d, rfl, hto, hdb, hb1⟩; obtain ⟨ao1, c1, rfl, hc1, _⟩ := owns_atN hto.row; obtain ⟨hal, htr⟩ := HTr.out d hdb; have HB1 := hide ((HB0.out.step hb1).step ((Below.refl _ _).alloc (Nat.le_refl _) (.cells #[.slice ao1 d.length c1] 72))); have HTn := hide (hto.nodesAt); have HAl := hide hal; have HTR := hide htr; have HBx : Hid ((w1.alloc (.cells #[.slice ao1 d.length c1] 72)).heap[w1.heap.size]? = some (.cells #[.slice ao1 d.length c1] 72 (0, 0))) := ⟨heap_alloc_new w1 _⟩; clear o2 o3 o4 hto hdb hb1 hal htr hc1; obtain ⟨o2, o3, o4⟩ := HB1.out.cells) | (go_at_call 107; (refine (nodesOf_any d ao1 c1 _ (by have := HTR.out.1; omega) HTR.out.2.1 (tree_rng HTR.out) (HTn.out.stays ((Below.refl _ w1).alloc (Nat.le_refl _) _))).mono ?_); rintro e w2 ⟨B, rfl, _, hM2, hb2⟩; have HB2 := hide (HB1.out.step hb2); have HM := hide hM2; have HBx2 := hide ((hb2.block _ (Array.getElem?_eq_some_iff.1 HBx.out).1).trans HBx.out); have HTn2 := hide ((HTn.out.stays ((Below.refl _ w1).alloc (Nat.le_refl _) (.cells #[.slice ao1 d.length c1] 72))).stays hb2); clear o2 o3 o4 hM2 hb2; obtain ⟨o2, o3, o4⟩ := HB2.out.cells; have t0 := cell1_ HBx2.out) | (go_at_call 109; (refine (hasBelow_any B (kvOf d) o.parent true _ HM.out HX.out.2 (by rw [kvAt_of]; exact (place_alike HAl.out o.parent).trans HQ.out)).mono ?_); rintro e w3 ⟨rfl, hb3⟩; have HB3 := hide (HB2.out.step hb3); have HBx3 := hide ((hb3.block _ (Array.getElem?_eq_some_iff.1 HBx2.out).1).trans HBx2.out); have HTn3 := hide (HTn2.out.stays hb3); clear o2 o3 o4 t0 hb3; obtain ⟨o2, o3, o4⟩ := HB3.out.cells; have t0 := cell1_ HBx3.out) | (go_at_call 110; have hab := iAbove_any d ao1 c1 o.parent o.node w3 (by have := HTR.out.1; omega) (tree_rng HTR.out) HX.out.2 HTn3.out (tree_sized HTR.out); rw [(above_alike' HAl.out o.parent o.node).trans HQ2.out] at hab; (refine hab.mono ?_); rintro e w4 ⟨rfl, hb4⟩; have HB4 := hide (HB3.out.step hb4); clear o2 o3 o4 t0 hb4 hab; obtain ⟨o2, o3, o4⟩ := HB4.out.cells) | fail)
  go_ret
  exact ⟨rfl, HB4.out.below⟩
end Go.Proofs.YtfkgmkcndchkjaaGreatDoor.OpR
