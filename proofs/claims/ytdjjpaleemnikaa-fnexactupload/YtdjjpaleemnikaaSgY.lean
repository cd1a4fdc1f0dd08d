/- Proves what impl's list of what was seen is, and slices.Equal at Seen. -/
import Derived.Test.YtdjjpaleemnikaaSgX
import Derived.Test.YtdjjpaleemnikaaSrtE
import Derived.Test.YtdjjpaleemnikaaCliBy
namespace Go.Proofs.Ytdjjpaleemnikaa.OpR
open Go.ChangeShapes Go.WideShapes Go.ChangeAt Go.RowKit
set_option linter.unusedVariables false

/-- What has come of the map, while the rest is still to come. -/
structure CollG (m : List (Int × SgtV)) (left : Lit → Bool) (ps : List (Int × SgtV)) : Prop where
  once : (ps.map Prod.fst).Nodup
  keys : ∀ x, x ∈ ps.map Prod.fst ↔ ((sgAt m x).isSome = true ∧ left (.int .i64 x) = false)
  vals : ∀ p ∈ ps, sgAt m p.1 = some p.2
theorem CollG.start (m : List (Int × SgtV)) : CollG m (Maps.has (sgD m)) [] := ⟨by simp, fun x => by rw [sgD_has]; cases (sgAt m x).isSome <;> simp, by simp⟩
theorem CollG.step {m : List (Int × SgtV)} {left : Lit → Bool} {ps : List (Int × SgtV)} (h : CollG m left ps) {x : Int} {n : SgtV} (hl : left (.int .i64 x) = true) (hn : sgAt m x = some n) : CollG m (fun z => left z && !z.sameKey (.int .i64 x)) (ps ++ [(x, n)]) := by
  refine ⟨?_, fun y => ?_, fun p hp => ?_⟩
  · rw [List.map_append, List.nodup_append]
    refine ⟨h.once, by simp, fun a ha b hb => ?_⟩
    simp only [List.map_cons, List.map_nil, List.mem_singleton] at hb
    subst hb
    intro e
    subst e
    have := ((h.keys a).1 ha).2
    rw [hl] at this
    cases this
  · rw [List.map_append, List.mem_append, h.keys y]
    simp only [List.map_cons, List.map_nil, List.mem_singleton, sg_same]
    by_cases e : y = x
    · subst e; simp [hn]
    · simp [e]
  · rcases List.mem_append.1 hp with hp | hp
    · exact h.vals p hp
    · obtain rfl := List.mem_singleton.1 hp
      exact hn
/-- What all of a map come to. -/
theorem CollG.perm {m ps : List (Int × SgtV)} {left : Lit → Bool} (h : CollG m left ps) (hl : ∀ kl, left kl = false) (hr : RiseG m) : ps.Perm m := by
  have h1 := h.once
  have h2 : ∀ x, x ∈ ps.map Prod.fst ↔ (sgAt m x).isSome = true := fun x => by rw [h.keys x, hl]; simp
  have h3 := h.vals
  have hn : (m.map Prod.fst).Nodup := by
    unfold List.Nodup
    rw [List.pairwise_map]
    exact hr.imp fun h => by omega
  have nd : ∀ {l : List (Int × SgtV)}, (l.map Prod.fst).Nodup → l.Nodup := fun h => List.Pairwise.of_map Prod.fst (fun a b hab e => hab (by rw [e])) h
  have atm : ∀ p, p ∈ m ↔ sgAt m p.1 = some p.2 := fun p => by
    constructor
    · intro hp
      cases hf : m.find? (fun q => decide (q.1 = p.1)) with
      | none =>
        have := List.find?_eq_none.1 hf p hp
        simp at this
      | some q =>
        have hq := List.mem_of_find?_eq_some hf
        have e : q.1 = p.1 := by simpa using List.find?_some hf
        have : q = p := by
          have hin := List.pairwise_map.1 hn
          rcases List.getElem_of_mem hq with ⟨i, hi, rfl⟩
          rcases List.getElem_of_mem hp with ⟨j, hj, rfl⟩
          have hpw := List.pairwise_iff_getElem.1 hin
          rcases Nat.lt_trichotomy i j with h | h | h
          · exact absurd e (hpw i j hi hj h)
          · subst h; rfl
          · exact absurd e.symm (hpw j i hj hi h)
        subst this
        unfold sgAt
        rw [hf]
        rfl
    · intro h
      unfold sgAt at h
      obtain ⟨q, hq, e⟩ := Option.map_eq_some_iff.1 h
      have h1 := List.mem_of_find?_eq_some hq
      have h2 : q.1 = p.1 := by simpa using List.find?_some hq
      have : q = p := Prod.ext h2 e
      rw [← this]
      exact h1
  rw [List.perm_ext_iff_of_nodup (nd h1) (nd hn)]
  intro p
  rw [atm p]
  constructor
  · exact h3 p
  · intro hp
    have : p.1 ∈ ps.map Prod.fst := (h2 p.1).2 (by rw [hp]; rfl)
    obtain ⟨q, hq, e⟩ := List.mem_map.1 this
    have hv := h3 q hq
    rw [e, hp] at hv
    have : q = p := Prod.ext e (by simpa using hv.symm)
    rwa [← this]
theorem sorted_seen {m : List (Int × SgtV)} {s : List SeenV} (hr : RiseG m) (hp : s.Perm (seenL m)) (ho : OrdE s) : s = seenL m := by
  refine rise_ext _ _ ?_ (seenL_rise hr) (fun x => hp.mem_iff)
  have hn : (s.map SeenV.repl).Nodup := by
    refine (hp.map SeenV.repl).nodup_iff.2 ?_
    unfold List.Nodup
    rw [List.pairwise_map]
    exact (seenL_rise hr).imp fun h => by omega
  have hn' := List.pairwise_map.1 hn
  exact (List.Pairwise.and ho hn').imp fun ⟨h1, h2⟩ => by
    have := (leE_iff _ _).1 h1
    omega
theorem one_seen (w : World) (r n : Int) (T : TypeId) : SeensAt (w.alloc (.cells #[.int .i64 r, .int .i64 n] T)) (some ⟨w.heap.size, 0, none⟩) [⟨r, n⟩] := by
  have h : InG SeenV.cells (w.alloc (.cells #[.int .i64 r, .int .i64 n] T)) w.heap.size T [⟨r, n⟩] := heap_alloc_new w _
  exact h.seensAt
def seenOf (p : Int × SgtV) : SeenV := ⟨p.1, p.2.many⟩
set_option maxRecDepth 100000 in
set_option maxHeartbeats 1000000 in
theorem seenList_any (m : List (Int × SgtV)) (B : Nat) (w : World) (hr : RiseG m) (hl : m.length ≤ 150) (hM : SgAt w B m) :
    Calls Try.prog 58 #[.map (some B)] w fun e w' => ∃ v, e = .returned v ∧ w'.ownsRow w.heap.size 67 2 v (seenL m).length (flatG SeenV.cells (seenL m)) ∧ Below w.heap.size w w' := by
  have HM := hide hM
  have HR := hide hr
  have HBl := hide hM.lt
  clear hM hr
  go_enter Try.func58, Try.ntmps58
  go_wp2_with (first | (at_range; refine wpList_range_own _ rfl _ 73 rfl 2 81 sgLaw Try.underlying73 _ B m.length _ rfl HM.out ?_; intro w0 hrg0 hg0 hs0) | go_in)
  go_frame
  go_loopw [3] (fun v wr => ∃ (left : Lit → Bool) (cnt : Nat) (ps : List (Int × SgtV)), wr.ranges Try.prog 2 rdG B w.heap.size m.length (sgD m) left cnt ∧ ps.length + cnt ≤ m.length ∧ CollG m left ps ∧ wr.ownsRow (w.heap.size + 1) 67 2 v (ps.map seenOf).length (flatG SeenV.cells (ps.map seenOf)) ∧ Below w.heap.size w wr ∧ w.heap.size + 1 ≤ wr.heap.size)
    (fun _ wr => wr.rangeLeft B w.heap.size)
  case atStart =>
    exact ⟨_, _, [], hrg0, by simp [sgD_size], CollG.start m, ⟨by simp [flatG], .inl ⟨rfl, rfl⟩⟩, ⟨hg0.os, hg0.tape, hg0.output, hg0.size, fun k hk => hg0.block k hk (by simp)⟩, by omega⟩
  case round =>
    obtain ⟨left, cnt, ps, hrg, hcs, hC, hO, hb, hz⟩ := hrel
    have HO := hide hO
    have HB := hide hb
    clear hO hb
    go_wp2_with (first
      | (at_next; refine wpList_next_ranges _ rfl _ rfl 2 sgLaw rdG (Value.int .i64) (fun v : Value => v) (fun key kl hk => by obtain ⟨x, hx, _⟩ := Maps.keyOf_int_inv Try.underlying2 hk; exact ⟨x, hx⟩) (fun v y hv => ⟨v, rfl⟩) B w.heap.size m.length _ _ _ rfl hrg ?_ ?_)
      | go_in)
    · intro hc0 hl0
      have hP := hC.perm hl0 HR.out
      have HP := hide hP
      obtain ⟨xs, hxs⟩ : ∃ xs, xs = ps.map seenOf := ⟨_, rfl⟩
      have hlen : xs.length ≤ 150 := by rw [hxs, List.length_map, hP.length_eq]; exact hl
      rw [← hxs] at HO
      have HX := hide hxs
      obtain ⟨ao, cp, rfl, hcp, hat⟩ := owns_atE HO.out
      have hso := sortedE_any xs.length xs ao cp wr (Nat.le_refl _) (by omega) hcp hat
      unfold aheadFnE at hso
      have HSo := hide hso
      clear hP hxs hat hso hcs hC hrg hl0
      go_wp2_with (first | (go_at_call 75; refine HSo.out.mono ?_; rintro e w5 ⟨v5, s, rfl, hp5, ho5, hown5, hb5⟩; have HX5 := hide (And.intro hp5 (And.intro ho5 (And.intro hown5 hb5))); clear hp5 ho5 hown5 hb5) | go_in)
      go_ret
      obtain ⟨hp5, ho5, hown5, hb5⟩ := HX5.out
      have es : s = seenL m := sorted_seen HR.out (hp5.trans (by rw [HX.out]; exact HP.out.map seenOf)) ho5
      subst es
      exact ⟨_, rfl, owns_lower hown5 HB.out.size, HB.out.trans (hb5.mono HB.out.size)⟩
    · intro x c kl yd yp w2 cnt2 hkey hlk hv hat hrg2 hlt hg2 hs2 hen
      obtain ⟨x', ex, rfl, _⟩ := Maps.keyOf_int_inv Try.underlying2 hkey
      obtain rfl : x = x' := by simpa using ex
      obtain ⟨nd, hnd, rfl⟩ : ∃ nd, sgAt m x = some nd ∧ c = nd.agg := by
        have hc : yd = .held c := by simp only [rdG, Option.some.injEq, Prod.mk.injEq] at hv; exact hv.1.symm
        cases hk : sgAt m x with
        | none =>
          have e1 := hat .nil
          rw [sgD_none hk, hc] at e1
          cases e1
        | some nd =>
          refine ⟨nd, rfl, ?_⟩
          have e1 := hat .nil
          rw [sgD_some hk, hc] at e1
          simpa using e1.symm
      have hC2 := hC.step hlk hnd
      have HC2 := hide hC2
      have hO2 := HO.out.kept hg2 (.inr (fun e => by have := (HO.out.lt w.heap.size (by first | exact e | exact e.symm)).1; omega))
      have hb2 := HB.out.grown hg2 HB.out.size (fun k e => by cases e; exact Nat.le_refl _)
      have HO2 := hide hO2
      have HB2 := hide hb2
      have HRG2 := hide hrg2
      have hN0 := one_seen (w2.alloc (.cells #[.int .i64 nd.many, .int .i64 nd.last.time, .int .i64 nd.last.repl, .int .i64 nd.last.kind, .int .i64 nd.last.node, .int .i64 nd.last.parent, .string nd.last.name, .string nd.last.value] 81)) x nd.many 67
      rw [show (w2.alloc (.cells #[.int .i64 nd.many, .int .i64 nd.last.time, .int .i64 nd.last.repl, .int .i64 nd.last.kind, .int .i64 nd.last.node, .int .i64 nd.last.parent, .string nd.last.name, .string nd.last.value] 81)).heap.size = w2.heap.size + 1 by simp] at hN0
      have HN := hide hN0
      have hpl : (ps.map seenOf).length ≤ 150 := by rw [List.length_map]; omega
      unfold SgtV.agg at hen ⊢
      obtain ⟨xs, hxs⟩ : ∃ xs, xs = ps.map seenOf := ⟨_, rfl⟩
      rw [← hxs] at HO2 hpl
      have HX := hide hxs
      have hz2 : w.heap.size + 1 ≤ w2.heap.size := by omega
      have hll := hrg.left_eq
      have hlt' : cnt2 < cnt := hlt
      have HLt := hide (And.intro hlt' (And.intro hll hcs))
      clear hs2 hat hv hC2 hnd hC hkey hO2 hb2 hrg2 hN0 hxs hlt hlt' hll hcs hg2 HO HB hrg
      go_wp2_with (first | (at_builtin; refine wpList_append_E rfl _ _ rfl (w.heap.size + 1) _ xs rfl ((HO2.out.alloc _).alloc _) (some ⟨w2.heap.size + 1, 0, none⟩) [⟨x, nd.many⟩] 1 rfl HN.out (by simp; omega) (by simp; omega) ?_; intro v1 w1 hown1 hgr1 hne1) | go_in)
      have hlow := fun j (hj : _ = some j) => (HO2.out.lt j hj).1
      have hbl := HBl.out
      have hrg3 := ((HRG2.out.alloc (.cells #[.int .i64 nd.many, .int .i64 nd.last.time, .int .i64 nd.last.repl, .int .i64 nd.last.kind, .int .i64 nd.last.node, .int .i64 nd.last.parent, .string nd.last.name, .string nd.last.value] 81)).alloc (.cells #[.int .i64 x, .int .i64 nd.many] 67)).kept hgr1 (fun e => by have := hlow B e.symm; omega) (fun e => by have := hlow w.heap.size e.symm; omega)
      have hb3 : Below w.heap.size w w1 := ((HB2.out.alloc HB2.out.size (.cells #[.int .i64 nd.many, .int .i64 nd.last.time, .int .i64 nd.last.repl, .int .i64 nd.last.kind, .int .i64 nd.last.node, .int .i64 nd.last.parent, .string nd.last.name, .string nd.last.value] 81)).alloc (by simp; omega) (.cells #[.int .i64 x, .int .i64 nd.many] 67)).grown hgr1 (by simp; omega) (fun j hj => by have := hlow j hj; omega)
      have hz3 : w.heap.size + 1 ≤ w1.heap.size := by have := hgr1.size; simp at this; omega
      have HRG3 := hide hrg3
      have HB3 := hide hb3
      have HO3 := hide hown1
      clear hrg3 hb3 hown1 hgr1 hne1 hlow
      go_wp2
      go_roundw
      case rel => exact ⟨_, cnt2, ps ++ [(x, nd)], HRG3.out, by have := HLt.out.1; have := HLt.out.2.2; simp; omega, HC2.out, by rw [List.map_append, ← HX.out]; exact HO3.out, HB3.out, hz3⟩
      case measure => rw [HRG3.out.left_eq, HLt.out.2.1]; exact HLt.out.1
theorem neq_seen (a b : SeenV) (W : World) : (binOp .neq 67 a.agg b.agg).run Try.prog W = .ok (.bool (!sameSeen a b)) W := by
  obtain ⟨a0, a1⟩ := a
  obtain ⟨b0, b1⟩ := b
  unfold SeenV.agg sameSeen
  simp [go_sem]
  by_cases h0 : a0 = b0 <;> by_cases h1 : a1 = b1 <;> simp [h0, h1]
theorem sameSeen_true {a b : SeenV} (h : a = b) : sameSeen a b = true := (sameSeen_iff _ _).2 h
set_option maxRecDepth 100000 in
set_option maxHeartbeats 1000000 in
theorem equalE_any (a b : List SeenV) (ao bo : Option Addr) (ca cb : Nat) (w : World) (ha : a.length ≤ 1048576) (hb : b.length ≤ 1048576) (hA : SeensAt w ao a) (hB : SeensAt w bo b) :
    Calls Try.prog 57 #[.slice ao a.length ca, .slice bo b.length cb] w fun e w' => e = .returned (.bool (sameS a b)) ∧ Below w.heap.size w w' := by
  have HA := hide hA
  have HB := hide hB
  clear hA hB
  go_enter Try.func57, Try.ntmps57
  go_wp2
  · rename_i hne
    go_ret
    refine ⟨ret_bool ?_, Below.refl _ _⟩
    cases e : sameS a b
    · rfl
    · rw [(sameS_iff a b).1 e] at hne; simp at hne
  rename_i hlen hK hk
  have hlen' : a.length = b.length := by have h := hlen; simp at h; omega
  have HLe := hide hlen'
  clear hlen hlen'
  go_loopw [13] (fun i wr => ∃ k : Nat, k ≤ a.length ∧ i = .int .i64 k ∧ (∀ j (hj : j < a.length), j < k → b[j]? = some a[j]) ∧ Below w.heap.size w wr) (fun i _ => a.length - (intOf i).toNat)
  case atStart => exact ⟨0, by omega, rfl, fun j hj h => by omega, Below.refl _ _⟩
  case round =>
    obtain ⟨k, hkl, rfl, hal, hw⟩ := hrel
    have HL := hide hal
    clear hal
    by_cases h : k < a.length
    · have h2 : k < b.length := by have := HLe.out; omega
      obtain ⟨b1, o1, rfl, hlt1, ho1⟩ := HA.out k h
      obtain ⟨b2, o2, rfl, hlt2, ho2⟩ := HB.out k h2
      obtain ⟨c0, c1⟩ := ho1.block (w' := wr) (hw.block b1 hlt1)
      obtain ⟨d0, d1⟩ := ho2.block (w' := wr) (hw.block b2 hlt2)
      have hi0 : (0 : Int) ≤ (k : Int) := by omega
      have hi1 : (k : Int) < (a.length : Int) := by omega
      have hi2 : (k : Int) < (b.length : Int) := by omega
      have hneq := fun W => neq_seen a[k] b[k] W
      unfold SeenV.agg at hneq
      clear ho1 ho2
      cases hs : sameSeen a[k] b[k]
      · simp only [hs] at hneq
        have hne : ¬ a[k] = b[k] := fun e => by rw [sameSeen_true e] at hs; cases hs
        have HNe := hide hne
        clear hne hs
        go_wp2_with fail
        go_quiet (fail)
        go_wp2
        go_ret
        refine ⟨ret_bool ?_, hw.trans ((drewN_below wr nq).mono hw.size)⟩
        cases e : sameS a b
        · rfl
        · exact absurd (by have e2 := (sameS_iff a b).1 e; subst e2; rfl) HNe.out
      · simp only [hs] at hneq
        have hne : a[k] = b[k] := (sameSeen_iff _ _).1 hs
        have HNe := hide hne
        clear hne hs
        go_wp2_with fail
        go_quiet (fail)
        go_wp2
        go_roundw
        case rel =>
          refine ⟨k + 1, by omega, by go_num, fun j hj hjk => ?_, hw.trans ((drewN_below wr nq).mono hw.size)⟩
          rcases Nat.lt_or_ge j k with h' | h'
          · exact HL.out j hj h'
          · obtain rfl : j = k := by omega
            rw [List.getElem?_eq_getElem h2, HNe.out]
        case measure => simp [intOf]; omega
    · go_wp2
      go_ret
      refine ⟨ret_bool ((sameS_iff a b).2 ?_).symm, hw⟩
      refine List.ext_getElem? fun j => ?_
      by_cases hj : j < a.length
      · rw [HL.out j hj (by omega), List.getElem?_eq_getElem hj]
      · have := HLe.out
        rw [List.getElem?_eq_none (by omega), List.getElem?_eq_none (by omega)]
end Go.Proofs.Ytdjjpaleemnikaa.OpR
