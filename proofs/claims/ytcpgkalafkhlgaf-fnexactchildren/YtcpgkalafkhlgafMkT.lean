/- Proves what the harness' marks do to a tree, and what its look at them tells. -/
import Derived.Test.YtcpgkalafkhlgafMkN
namespace Go.Proofs.Ytcpgkalafkhlgaf.OpR
open Go.ChangeShapes Go.WideShapes Go.ChangeAt Go.RowKit
set_option linter.unusedVariables false

theorem mix_mem {k : Nat} {l : List NodG} {j : Nat} {n : NodG} (h : n ∈ mixG (markN k l) l j) : ∃ m ∈ l, n.pao = m.pao ∧ n.props.length = m.props.length := by
  rcases List.mem_append.1 h with h | h
  · obtain ⟨i, hi, rfl⟩ := List.getElem_of_mem (List.mem_of_mem_take h)
    have hi' : i < l.length := by rw [markN_len] at hi; exact hi
    rw [markN_get hi hi']
    exact ⟨l[i], List.getElem_mem hi', rfl, by simp [mark1, markP_len]⟩
  · exact ⟨n, List.mem_of_mem_drop h, rfl, rfl⟩
theorem own_cell {w : World} {base : Nat} {T : TypeId} {c g N n cap : Nat} {xs : List Value} (h : w.ownsRow base T c (.slice (some ⟨g, 0, none⟩) N cap) n xs) {i : Nat} (hi : i < xs.length) : w.cell? ⟨g, i, none⟩ = some xs[i] := by
  rcases h.2 with ⟨e, _⟩ | ⟨g', cap', cur, e, hb, hg, h1, h2, h3, h4⟩
  · cases e
  · simp only [Value.slice.injEq, Option.some.injEq, Addr.mk.injEq] at e
    obtain ⟨⟨rfl, _⟩, rfl, rfl⟩ := e
    exact row_cell h hi
theorem own_free {w : World} {base : Nat} {T : TypeId} {c g N n cap : Nat} {xs : List Value} (h : w.ownsRow base T c (.slice (some ⟨g, 0, none⟩) N cap) n xs) (p : Nat) : w.frozen? ⟨g, p, none⟩ = false := by
  rcases h.2 with ⟨e, _⟩ | ⟨g', cap', cur, e, hb, hg, h1, h2, h3, h4⟩
  · cases e
  · simp only [Value.slice.injEq, Option.some.injEq, Addr.mk.injEq] at e
    obtain ⟨⟨rfl, _⟩, _, rfl⟩ := e
    simp [World.frozen?, hg]
theorem nod_cells {w : World} {base g N cap : Nat} {d : List NodG} (h : TreeOwn w base (.slice (some ⟨g, 0, none⟩) N cap) d) {j : Nat} (hj : j < d.length) : NodAt w g (j * 4) d[j] := by
  have hc : ∀ f, f < 4 → ∀ u, d[j].cells[f]? = some u → w.cell? ⟨g, j * 4 + f, none⟩ = some u := fun f hf u hu => by
    have h0 := (flatG_get nod_len d j f hj hf).trans hu
    obtain ⟨h1, h2⟩ := List.getElem?_eq_some_iff.1 h0
    have h3 := own_cell h.row h1
    rw [h2] at h3
    exact h3
  exact ⟨hc 0 (by omega) _ rfl, hc 1 (by omega) _ rfl, hc 2 (by omega) _ rfl, hc 3 (by omega) _ rfl⟩
set_option maxRecDepth 100000 in
set_option maxHeartbeats 1000000 in
theorem markNodeS_some (l : List NodG) (g cap base top k0 : Nat) (w : World) (hl : l.length ≤ 1048576) (hp : ∀ n ∈ l, n.props.length ≤ 1048576) (hk : 0 < k0) (hk2 : k0 ≤ 1048576) (hO : TreeOwn w base (.slice (some ⟨g, 0, none⟩) l.length cap) l) (hU : Under top (.slice (some ⟨g, 0, none⟩) l.length cap) l) :
    Calls Try.prog 30 #[.slice (some ⟨g, 0, none⟩) l.length cap, .int .i64 (k0 : Int)] w fun e w' => e = .returned (.int .i64 (endN k0 l : Int)) ∧ TreeOwn w' base (.slice (some ⟨g, 0, none⟩) l.length cap) (markN k0 l) ∧ Twixt base top w w' := by
  have HO := hide hO
  have HP := hide hp
  have HU := hide hU
  have HML : Hid ((markN k0 l).length = l.length) := ⟨markN_len k0 l⟩
  have HGb : Hid (base ≤ g ∧ g < top) := ⟨⟨(hO.row.lt g rfl).1, hU.1 g rfl⟩⟩
  clear hO hp hU
  go_enter Try.func30, Try.ntmps30
  go_wp2
  go_loopw [1, 5] (fun kv i wr => ∃ j : Nat, j ≤ l.length ∧ i = .int .i64 j ∧ kv = .int .i64 (endN k0 (l.take j) : Int) ∧ TreeOwn wr base (.slice (some ⟨g, 0, none⟩) l.length cap) (mixG (markN k0 l) l j) ∧ Twixt base top w wr) (fun _ i _ => l.length - (intOf i).toNat)
  case atStart => exact ⟨0, by omega, rfl, rfl, by rw [mixG_zero]; exact HO.out, Twixt.refl _ _ _⟩
  case round =>
    obtain ⟨j, hj, rfl, rfl, hR, hg⟩ := hrel
    have HG := hide hg
    clear hg
    obtain ⟨K, hK⟩ : ∃ K, endN k0 (l.take j) = K := ⟨_, rfl⟩
    have HK := hide hK
    have hK2 : K ≤ 2200000000000 := by
      have := endN_le k0 (l.take j) (fun n hn => HP.out n (List.mem_of_mem_take hn))
      rw [List.length_take] at this
      omega
    have hK0 : 0 < K := by have := endN_ge k0 (l.take j); omega
    rw [hK]
    clear hK
    have HL : Hid ((mixG (markN k0 l) l j).length = l.length) := ⟨mixG_len HML.out hj⟩
    by_cases h : j < l.length
    · have hi0 : (0 : Int) ≤ (j : Int) := by omega
      have hi1 : (j : Int) < (l.length : Int) := by omega
      obtain ⟨d, hd⟩ : ∃ d, mixG (markN k0 l) l j = d := ⟨_, rfl⟩
      obtain ⟨n, hn⟩ : ∃ n, l[j] = n := ⟨_, rfl⟩
      have hdl : d.length = l.length := by rw [← hd]; exact HL.out
      have hjd : j < d.length := by omega
      have hdj : d[j] = n := by subst hd; rw [mixG_get HML.out h, hn]
      have hnp : n.props.length ≤ 1048576 := by rw [← hn]; exact HP.out _ (List.getElem_mem h)
      rw [hd] at hR
      have HD := hide hd
      have HN := hide hn
      have HDJ := hide hdj
      have hR' : TreeOwn wr base (.slice (some ⟨g, 0, none⟩) d.length cap) d := by rw [hdl]; exact hR
      -- the stores, one by one
      have T1 := hR'.field hjd (f := 0) (by omega) (.int .i64 (K : Int)) ⟨(K : Int), n.parent, n.name, n.props, n.pao, n.pcap⟩ (by rw [hdj]; rfl) (by rw [hdj]) (by rw [hdj]) (by rw [hdj])
      have T2 := T1.field (j := j) (by rw [List.length_set]; exact hjd) (f := 1) (by omega) (.int .i64 ((K : Int) + 1)) ⟨(K : Int), (K : Int) + 1, n.name, n.props, n.pao, n.pcap⟩ (by rw [List.getElem_set_self]; rfl) (by rw [List.getElem_set_self]) (by rw [List.getElem_set_self]) (by rw [List.getElem_set_self])
      rw [List.set_set, List.length_set, hdl] at T2
      have HT2 : Hid (TreeOwn ((wr.setCell ⟨g, j * 4, none⟩ (.int .i64 (K : Int))).setCell ⟨g, j * 4 + 1, none⟩ (.int .i64 ((K : Int) + 1))) base (.slice (some ⟨g, 0, none⟩) l.length cap) (d.set j ⟨(K : Int), (K : Int) + 1, n.name, n.props, n.pao, n.pcap⟩)) := ⟨T2⟩
      have HG2 : Hid (Twixt base top w ((wr.setCell ⟨g, j * 4, none⟩ (.int .i64 (K : Int))).setCell ⟨g, j * 4 + 1, none⟩ (.int .i64 ((K : Int) + 1)))) := ⟨(HG.out.set HGb.out.1 HGb.out.2 _ _).set HGb.out.1 HGb.out.2 _ _⟩
      obtain ⟨c0, c1, c2, c3⟩ := nod_cells hR hjd
      rw [hdj] at c0 c1 c2 c3
      have f0 := own_free hR.row (j * 4)
      have f1 := own_free hR.row (j * 4 + 1)
      have hT : ∀ w, Calls Try.prog 51 #[.int .i64 ((K : Int) + 1 + 1)] w fun e w' => e = .returned (.string (mt (K + 2))) ∧ Below w.heap.size w w' := fun w => by
        rw [show (K : Int) + 1 + 1 = ((K + 2 : Nat) : Int) by omega]
        exact markText_any (K + 2) (by omega) (by omega) w
      clear T1 T2 hR hR' hd hn hdj
      go_wp2_with (first | (go_at_call 51; refine (hT _).mono ?_; rintro e w1 ⟨rfl, hb1⟩; have ht3 := HT2.out.stays hb1; have HG3 : Hid (Twixt base top w w1) := ⟨HG2.out.trans (Twixt.of hb1)⟩; obtain ⟨d0, d1, d2, d3⟩ := nod_cells ht3 (j := j) (by rw [List.length_set]; exact hjd); rw [List.getElem_set_self] at d0 d1 d2 d3; have g2 := own_free ht3.row (j * 4 + 2); have ht4 := TreeOwn.field (cap := cap) (by rw [List.length_set, hdl]; exact ht3) (j := j) (by rw [List.length_set]; exact hjd) (f := 2) (by omega) (.string (mt (K + 2))) ⟨(K : Int), (K : Int) + 1, mt (K + 2), n.props, n.pao, n.pcap⟩ (by rw [List.getElem_set_self]; rfl) (by rw [List.getElem_set_self]) (by rw [List.getElem_set_self]) (by rw [List.getElem_set_self]); rw [List.set_set, List.length_set, hdl] at ht4; have HT4 := hide ht4; have HG4 := hide (HG3.out.set HGb.out.1 HGb.out.2 (j * 4 + 2) (.string (mt (K + 2)))); have HX4 : Hid ((w1.setCell ⟨g, j * 4 + 2, none⟩ (.string (mt (K + 2)))).ownsRow base 64 2 (.slice n.pao n.props.length n.pcap) n.props.length (flatG PropV.cells n.props)) := ⟨ht4.props ⟨(K : Int), (K : Int) + 1, mt (K + 2), n.props, n.pao, n.pcap⟩ (List.mem_set hjd _)⟩; clear hT ht3 ht4 hb1 c0 c1 c2 c3 f0 f1) | (go_at_call 52; have hmp := markPropS_any n.props n.pao n.pcap base (K + 3) (w1.setCell ⟨g, j * 4 + 2, none⟩ (.string (mt (K + 2)))) hnp (by omega) (by omega) HX4.out; rw [show ((K + 3 : Nat) : Int) = (K : Int) + 1 + 1 + 1 by omega] at hmp; refine hmp.mono ?_; rintro e w2 ⟨rfl, ho2, hg2⟩; have HO2 := hide ho2; have HGr := hide hg2; clear hmp ho2 hg2 d0 d1 d2 d3 g2))
      have T5 := TreeOwn.turned (cap := cap) (w' := w2) (by rw [List.length_set, hdl]; exact HT4.out) (j := j) (by rw [List.length_set]; exact hjd) ⟨(K : Int), (K : Int) + 1, mt (K + 2), n.props, n.pao, n.pcap⟩ (by rw [List.getElem_set_self]) (markP (K + 3) n.props.length) (markP_len _ _) HGr.out HO2.out
      rw [List.set_set, List.length_set, hdl] at T5
      have hmx : d.set j ⟨(K : Int), (K : Int) + 1, mt (K + 2), markP (K + 3) n.props.length, n.pao, n.pcap⟩ = mixG (markN k0 l) l (j + 1) := by
        have e := mixG_set HML.out h (by rw [HML.out]; exact h)
        rw [markN_get (by rw [HML.out]; exact h) h, HK.out, HN.out, HD.out] at e
        exact e
      have HT5 : Hid (TreeOwn w2 base (.slice (some ⟨g, 0, none⟩) l.length cap) (mixG (markN k0 l) l (j + 1))) := ⟨by rw [← hmx]; exact T5⟩
      have HEn : Hid (endN k0 (l.take (j + 1)) = K + 3 + 2 * n.props.length) := ⟨by rw [endN_take h, HK.out, HN.out]⟩
      have HG5 : Hid (Twixt base top w w2) := ⟨HG4.out.trans (Twixt.grown HGr.out (fun b e => by
        refine ⟨(HX4.out.lt b e).1, ?_⟩
        cases hpa : n.pao with
        | none => rw [hpa] at e; cases e
        | some x =>
          rw [hpa] at e
          have e2 : x.block = b := Option.some.inj e
          rw [← e2]
          exact HU.out.2 n (by rw [← HN.out]; exact List.getElem_mem h) x hpa))⟩
      clear T5 hmx
      go_roundw
      case rel =>
        refine ⟨j + 1, by omega, by go_num, ?_, HT5.out, HG5.out⟩
        have := HEn.out
        refine congrArg (Value.int .i64) ?_
        omega
      case measure => simp [intOf]; omega
    · obtain rfl : j = l.length := by omega
      have HF : Hid (endN k0 l = K) := ⟨by have := HK.out; rwa [List.take_length] at this⟩
      go_wp2
      go_ret
      exact ⟨by rw [HF.out]; rfl, by have := hR; rwa [mixG_all HML.out] at this, HG.out⟩
end Go.Proofs.Ytcpgkalafkhlgaf.OpR
