/- Proves what impl's map of nodes tells of the children of a number: the nodes below it, by their names. -/
import Derived.Test.YtmidembbanlleafDoorSrtC
import Derived.Test.YtmidembbanlleafDoorColl
import Derived.Test.YtmidembbanlleafDoorIMap
namespace Go.Proofs.YtmidembbanlleafDoor.OpR
open Go.ChangeShapes Go.WideShapes Go.ChangeAt Go.RowKit
set_option linter.unusedVariables false

def kidsOf (y : Int) (l : List NodG) : List NodG := l.filter fun n => decide (n.parent = y)
theorem one_node' (W : World) (x : NodG) : NCells (W.alloc (.cells #[.int .i64 x.id, .int .i64 x.parent, .string x.name, .slice x.pao x.props.length x.pcap] 53)) (some ⟨W.heap.size, 0, none⟩) [x] := fun j hj => by
  obtain rfl : j = 0 := by simpa using hj
  have h := cells4 (heap_alloc_new W (.cells #[.int .i64 x.id, .int .i64 x.parent, .string x.name, .slice x.pao x.props.length x.pcap] 53))
  exact ⟨_, _, rfl, by simp, h.1, h.2.1, h.2.2.1, h.2.2.2.1⟩
set_option maxRecDepth 100000 in
set_option maxHeartbeats 1000000 in
theorem iKids_any (m : List (Int × NodG)) (B : Nat) (y : Int) (w : World) (hl : m.length ≤ 150) (hM : MapAt w B m) :
    Calls Tryd.prog 44 #[.map (some B), .int .i64 y] w fun e w' => ∃ v s, e = .returned v ∧ OrdC s ∧ (∃ xs, AllK m xs ∧ s.Perm (kidsOf y xs)) ∧ w'.ownsRow w.heap.size 53 4 v s.length (flatG NodG.cells s) ∧ Below w.heap.size w w' := by
  have hBlt := hM.lt
  go_enter Tryd.func44, Tryd.ntmps44
  go_wp2_with (first | (at_range; refine wpList_range_own _ rfl _ 42 rfl 2 53 lawK Tryd.underlying42 rdN B m.length (kvD m) rfl hM ?_; intro w0 hrg0 hg0 hs0) | go_in)
  go_frame
  have HB0 : Hid (Below w.heap.size w w0) := ⟨(Below.refl _ _).grown hg0 (Nat.le_refl _) (fun k e => by cases e)⟩
  clear hg0 hs0
  go_loopw [5] (fun v wr => ∃ (left : Lit → Bool) (cnt : Nat) (ps : List (Int × NodG)), wr.ranges Tryd.prog 2 rdN B w.heap.size m.length (kvD m) left cnt ∧ ps.length + cnt ≤ m.length ∧ CollK m left ps ∧ wr.ownsRow (w.heap.size + 1) 53 4 v (kidsOf y (ps.map Prod.snd)).length (flatG NodG.cells (kidsOf y (ps.map Prod.snd))) ∧ Below w.heap.size w wr) (fun _ wr => wr.rangeLeft B w.heap.size)
  case atStart => exact ⟨_, _, [], hrg0, by simp [kvD_size], CollK.start m, World.ownsRow_nil _ _ _ _, HB0.out⟩
  case round =>
    obtain ⟨left, cnt, ps, hrg, hcs, hC, hR, hb⟩ := hrel
    have HC := hide hC
    have HR := hide hR
    have HB := hide hb
    have hrl := hrg.lt
    clear hC hR hb hrg0
    go_wp2_with (first | (at_next; refine wpList_next_ranges _ rfl _ rfl 2 lawK rdN (Value.int .i64) (fun v : Value => v) (fun key kl hk => by obtain ⟨x, hx, _⟩ := Maps.keyOf_int_inv Tryd.underlying2 hk; exact ⟨x, hx⟩) (fun v y hv => ⟨v, rfl⟩) B w.heap.size m.length (kvD m) left cnt rfl hrg ?_ ?_) | go_in)
    · intro hc0 hl0
      have HAl : Hid (AllK m (ps.map Prod.snd)) := ⟨⟨ps, HC.out.once, fun x => by rw [HC.out.keys x, hl0]; simp, HC.out.vals, rfl⟩⟩
      have hkl : (kidsOf y (ps.map Prod.snd)).length ≤ 150 := Nat.le_trans (List.length_filter_le _ _) (by simp; omega)
      obtain ⟨a5, c5, hv5, hc5, hA5⟩ := owns_atN HR.out
      subst hv5
      have hst := fun W (hW : Below wr.heap.size wr W) => sortedC_any _ (kidsOf y (ps.map Prod.snd)) a5 c5 W (Nat.le_refl _) (by omega) hc5 (hA5.stays hW)
      unfold aheadFnC at hst
      have HST := hide hst
      clear hst hA5 hl0 hrg
      go_wp2_with (first | (go_at_call 56; refine (HST.out _ (Below.refl _ _)).mono ?_; rintro e w3 ⟨v3, s3, rfl, hp3, ho3, hw3, hb3⟩) | go_in)
      go_ret
      exact ⟨v3, s3, rfl, ho3, ⟨_, HAl.out, hp3⟩, owns_lower hw3 HB.out.size, HB.out.trans (hb3.mono HB.out.size)⟩
    · intro x c kl yd yp w2 cnt2 hkey hlk hv hat hrg2 hlt hg2 hs2 hen
      obtain ⟨x', ex, rfl, _⟩ := Maps.keyOf_int_inv Tryd.underlying2 hkey
      obtain rfl : x = x' := by simpa using ex
      obtain ⟨nd, hnd, rfl⟩ : ∃ nd, kvAt m x = some nd ∧ c = nd.agg := by
        have hc : yd = .held c := by simp only [rdN, Option.some.injEq, Prod.mk.injEq] at hv; exact hv.1.symm
        cases hk : kvAt m x with
        | none =>
          have e1 := hat .nil
          rw [kvD_none hk, hc] at e1
          cases e1
        | some nd =>
          refine ⟨nd, rfl, ?_⟩
          have e1 := hat .nil
          rw [kvD_some hk, hc] at e1
          simpa using e1.symm
      have HC2 := hide (HC.out.step hlk hnd)
      have HB2 : Hid (Below w.heap.size w w2) := ⟨HB.out.grown hg2 HB.out.size (fun k e => by cases e; exact Nat.le_refl _)⟩
      have HR2 : Hid (w2.ownsRow (w.heap.size + 1) 53 4 u5 (kidsOf y (ps.map Prod.snd)).length (flatG NodG.cells (kidsOf y (ps.map Prod.snd)))) := ⟨HR.out.kept hg2 (by
        cases hv5 : Value.ownBlock u5 with
        | none => exact .inl rfl
        | some k => exact .inr (fun e => by have h1 := (HR.out.lt k hv5).1; have h2 := Option.some.inj e; omega))⟩
      have HRg := hide hrg2
      have HRo := hide hrg
      have HLt := hide hlt
      unfold NodG.agg at hen ⊢
      clear hat hv hnd hkey hrg2 hrg hlt hs2 hg2
      have hkl : (kidsOf y (ps.map Prod.snd)).length ≤ 150 := Nat.le_trans (List.length_filter_le _ _) (by simp; omega)
      by_cases hp : nd.parent = y
      · have HF : Hid (kidsOf y ((ps ++ [(x, nd)]).map Prod.snd) = kidsOf y (ps.map Prod.snd) ++ [nd]) := ⟨by simp [kidsOf, hp]⟩
        have b0 : (nd.parent == y) = true := beq_iff_eq.2 hp
        clear hp
        go_wp2_with (first | (at_builtin; refine wpList_append_N rfl _ _ rfl (w.heap.size + 1) u5 (kidsOf y (ps.map Prod.snd)) rfl ((HR2.out.alloc _).alloc _) (some ⟨w2.heap.size + 1, 0, none⟩) [nd] 1 rfl (by have := one_node' (w2.alloc (.cells #[.int .i64 nd.id, .int .i64 nd.parent, .string nd.name, .slice nd.pao nd.props.length nd.pcap] 53)) nd; simpa using this) (by simp; omega) (by have := HB2.out.size; simp; omega) ?_; intro v5 w5 ho5 hg5 hn5; clear hn5) | go_in)
        have hfar : ∀ k, Value.ownBlock u5 = some k → w.heap.size + 1 ≤ k := fun k e => (HR2.out.lt k e).1
        have hrg5 := ((HRg.out.alloc (.cells #[.int .i64 nd.id, .int .i64 nd.parent, .string nd.name, .slice nd.pao nd.props.length nd.pcap] 53)).alloc (.cells #[.int .i64 nd.id, .int .i64 nd.parent, .string nd.name, .slice nd.pao nd.props.length nd.pcap] 53)).kept hg5 (fun e => by have := hfar B e.symm; omega) (fun e => by have := hfar _ e.symm; omega)
        go_roundw
        case rel => exact ⟨_, cnt2, ps ++ [(x, nd)], hrg5, by have := HLt.out; simp; omega, HC2.out, by rw [HF.out]; exact ho5, ((HB2.out.alloc HB2.out.size _).alloc (by have := HB2.out.size; simp; omega) _).grown hg5 (by have := HB2.out.size; simp; omega) (fun k e => by have := hfar k e; omega)⟩
        case measure => rw [hrg5.left_eq, HRo.out.left_eq]; exact HLt.out
      · have HF : Hid (kidsOf y ((ps ++ [(x, nd)]).map Prod.snd) = kidsOf y (ps.map Prod.snd)) := ⟨by simp [kidsOf, hp]⟩
        have b0 : (nd.parent == y) = false := beq_eq_false_iff_ne.2 hp
        clear hp
        go_wp2
        go_roundw
        case rel => exact ⟨_, cnt2, ps ++ [(x, nd)], HRg.out.alloc _, by have := HLt.out; simp; omega, HC2.out, by rw [HF.out]; exact HR2.out.alloc _, HB2.out.alloc HB2.out.size _⟩
        case measure => rw [(HRg.out.alloc _).left_eq, HRo.out.left_eq]; exact HLt.out
end Go.Proofs.YtmidembbanlleafDoor.OpR
