/- Proves what impl.PathOf tells. -/
import Derived.Test.YtcpgkalafkhlgafPathM
import Derived.Test.YtcpgkalafkhlgafStrs
import Derived.Test.YtcpgkalafkhlgafITree
namespace Go.Proofs.Ytcpgkalafkhlgaf.OpR
open Go.ChangeShapes Go.WideShapes Go.ChangeAt Go.RowKit
set_option linter.unusedVariables false

/-- Between two steps of the way up: the parts, and the variable of the node. -/
structure PathI (z c : World) (p : Value) (d : List ByteArray) (gn : Nat) (m : NodG) : Prop where
  below : Below z.heap.size z c
  row : TxtRow c z.heap.size p (partsN d)
  lies : c.heap[gn]? = some (.cells #[.int .i64 m.id, .int .i64 m.parent, .string m.name, .slice m.pao m.props.length m.pcap] 50 (0, 0))
  apart : p.ownBlock ≠ some gn
theorem PathI.lt {z c : World} {p : Value} {d : List ByteArray} {gn : Nat} {m : NodG} (h : PathI z c p d gn m) : gn < c.heap.size := (Array.getElem?_eq_some_iff.1 h.lies).1
/-- Behind an append to the parts. -/
theorem PathI.after {z c c' : World} {p : Value} {d : List ByteArray} {gn : Nat} {m : NodG} (h : PathI z c p d gn m) {o : Obj} (hg : (c.alloc o).grownBy c' p.ownBlock) : Below z.heap.size z c' ∧ c'.heap[gn]? = some (.cells #[.int .i64 m.id, .int .i64 m.parent, .string m.name, .slice m.pao m.props.length m.pcap] 50 (0, 0)) := by
  refine ⟨(h.below.alloc h.below.size o).grown hg (by have := h.below.size; simp; omega) (fun k e => (h.row.lt k e).1), ?_⟩
  rw [hg.block gn (by have := h.lt; simp; omega) (fun e => h.apart e.symm), Below.heap_alloc c o gn h.lt]
  exact h.lies
/-- With a new variable of a node. -/
theorem PathI.next {z c : World} {p : Value} {d : List ByteArray} (hb : Below z.heap.size z c) (hr : TxtRow c z.heap.size p (partsN d)) (m : NodG) : PathI z (c.alloc (.cells #[.int .i64 m.id, .int .i64 m.parent, .string m.name, .slice m.pao m.props.length m.pcap] 50)) p d c.heap.size m :=
  ⟨hb.alloc hb.size _, TxtRow.stays hr ((Below.refl _ _).alloc (Nat.le_refl _) _), heap_alloc_new c _, fun e => by have := (hr.lt _ e).2; omega⟩
set_option maxRecDepth 100000 in
set_option maxHeartbeats 1000000 in
theorem iPath_any (l : List NodG) (ao : Option Addr) (cap : Nat) (x : Int) (w : World) (hl : l.length ≤ 1048576) (hg : Rng l) (hx : In64 x) (hA : NodesAt w ao l) (hS : ∀ n ∈ l, Sized1 1048576 n) :
    Calls Try.prog 17 #[.agg #[.slice ao l.length cap], .int .i64 x] w fun e w' => e = .returned (.string (pathB l x)) ∧ Below w.heap.size w w' := by
  have htr := fun W (hW : Below w.heap.size w W) => iTree_any l ao cap W hl hg (hA.stays hW) hS
  have H1 := hide (Box1.start w (.slice ao l.length cap) 30)
  have HA := hide hA
  have HG := hide hg
  have HX := hide hx
  have HZ : Hid (∀ n ∈ l, n.name.size ≤ 1048576) := ⟨fun n hn => (hS n hn).1⟩
  clear hA hS hg hx
  cases ht : treeRight l
  · have HF : Hid (pathB l x = ⟨#[]⟩) := ⟨pathB_no (fun e => by rw [ht] at e; exact absurd e.1 (by decide))⟩
    simp only [ht] at htr
    go_enter Try.func17, Try.ntmps17
    go_wp2_with (first | (go_at_call 26; refine (htr _ H1.out.below).mono ?_; rintro e w1 ⟨rfl, hb1⟩))
    go_ret
    exact ⟨by rw [HF.out]; rfl, (H1.out.step hb1).below⟩
  · have HTR := hide ((treeR_iff l).1 ht)
    have hno := fun W (hW : Below w.heap.size w W) => nodesOf_any l ao cap W hl HTR.out.2.1 HG.out (HA.out.stays hW)
    have HNO := hide hno
    simp only [ht] at htr
    clear hno
    cases hn : nodOf l x with
    | none =>
      have HF : Hid (pathB l x = ⟨#[]⟩) := ⟨pathB_no (fun e => by rw [hn] at e; exact absurd e.2 (by decide))⟩
      have HN : Hid (kvAt (kvOf l) x = none) := ⟨by rw [kvAt_of]; exact hn⟩
      clear ht hn
      go_enter Try.func17, Try.ntmps17
      go_wp2_with (first | (go_at_call 26; refine (htr _ H1.out.below).mono ?_; rintro e w1 ⟨rfl, hb1⟩; have hbx := H1.out.step hb1; have H2 := hide hbx; have hc := hbx.cell; clear hbx hb1) | (go_at_call 27; refine (HNO.out _ H2.out.below).mono ?_; rintro e w2 ⟨B, rfl, hB, hM2, hb2⟩; have hbx := H2.out.step hb2; have H3 := hide hbx; have HM := hide hM2; clear hbx hb2 hM2 hc) | (at_lookup; refine wpList_look_none _ rfl _ _ rfl B (kvOf l) rfl HM.out x HX.out rfl HN.out ?_))
      have hB2 := H3.out.below.size
      go_loopw [6, 7, 8, 9] (fun p t a h wr => p = .slice none 0 0 ∧ t = .int .i64 x ∧ h = .bool false ∧ Below w2.heap.size w2 wr) (fun _ t _ _ _ => 0)
      case atStart => exact ⟨rfl, rfl, rfl, (Below.refl _ _).alloc (Nat.le_refl _) _⟩
      case round =>
        obtain ⟨rfl, rfl, rfl, hb⟩ := hrel
        have hrv := reverse_nil wr
        have hj := joined_nil wr
        have HB := hide hb
        clear hb
        by_cases hx1 : x = 1
        · subst hx1
          go_wp2_with (first | (go_at_call 33; refine hrv.mono ?_; rintro e w4 ⟨⟨ev, rfl⟩, hw4⟩; subst hw4; clear hrv) | (go_at_call 34; refine hj.mono ?_; rintro e w5 ⟨rfl, hb5⟩; clear hj))
          go_ret
          exact ⟨by rw [HF.out]; rfl, H3.out.below.trans ((HB.out.trans (hb5.mono HB.out.size)).mono hB2)⟩
        · have hx2 : (x == 1) = false := beq_eq_false_iff_ne.2 hx1
          go_wp2_with (first | (go_at_call 33; refine hrv.mono ?_; rintro e w4 ⟨⟨ev, rfl⟩, hw4⟩; subst hw4; clear hrv) | (go_at_call 34; refine hj.mono ?_; rintro e w5 ⟨rfl, hb5⟩; clear hj))
          go_ret
          exact ⟨by rw [HF.out]; rfl, H3.out.below.trans ((HB.out.trans (hb5.mono HB.out.size)).mono hB2)⟩
    | some n =>
      obtain ⟨q0, q1⟩ := tree_par HTR.out
      have HQ := hide (And.intro q0 q1)
      have HE0 := hide (tree_ends HTR.out hn)
      have HF := hide (pathB_yes ht hn)
      have HN : Hid (kvAt (kvOf l) x = some n) := ⟨by rw [kvAt_of]; exact hn⟩
      have HN0 := hide hn
      have h150 := HTR.out.1
      clear ht hn q0 q1
      go_enter Try.func17, Try.ntmps17
      go_wp2_with (first | (go_at_call 26; refine (htr _ H1.out.below).mono ?_; rintro e w1 ⟨rfl, hb1⟩; have hbx := H1.out.step hb1; have H2 := hide hbx; have hc := hbx.cell; clear hbx hb1) | (go_at_call 27; refine (HNO.out _ H2.out.below).mono ?_; rintro e w2 ⟨B, rfl, hB, hM2, hb2⟩; have hbx := H2.out.step hb2; have H3 := hide hbx; have HM := hide hM2; clear hbx hb2 hM2 hc) | (at_lookup; refine wpList_look_some _ rfl _ _ rfl B (kvOf l) rfl HM.out x HX.out rfl n HN.out ?_))
      have hB2 := H3.out.below.size
      go_loopw [6, 7, 8, 9] (fun p t a h wr => ∃ (v : Int) (d : List ByteArray) (gn : Nat), t = .int .i64 v ∧ a = .pointer (some ⟨gn, 0, none⟩) ∧ h = .bool (nodOf l v).isSome ∧ endsF (par l) (l.length + 1) v = true ∧ wayN l (l.length + 1) x = d ++ wayN l (l.length + 1) v ∧ topN l (l.length + 1) x = topN l (l.length + 1) v ∧ d.length + stepsF (par l) (l.length + 1) v ≤ l.length + 1 ∧ (pathA d).size ≤ d.length * 1048577 ∧ PathI w2 wr p d gn ((nodOf l v).getD NodG.zero)) (fun _ t _ _ _ => stepsV (par l) (l.length + 1) t)
      case atStart =>
        refine ⟨x, [], _, rfl, rfl, by rw [HN0.out]; rfl, HE0.out, rfl, rfl, by simpa using steps_le _ _ _, Nat.le_refl _, ?_⟩
        rw [HN0.out]
        exact PathI.next (p := .slice none 0 0) (d := []) (Below.refl _ _) (show TxtRow w2 w2.heap.size (.slice none 0 0) (partsN []) from World.ownsRow_nil _ _ _ _) n
      case round =>
        obtain ⟨v, d, gn, rfl, rfl, rfl, he, hw, htp, hst, hsz, hI⟩ := hrel
        have HE := hide he
        have HW := hide hw
        have HTp := hide htp
        have HST := hide hst
        have HSZ := hide hsz
        have hdl : d.length ≤ 151 := by omega
        have hpl : (partsN d).length ≤ 302 := by rw [partsN_len]; omega
        have hpz : (pathA d).size ≤ 400000000 := by omega
        clear he hw htp hst hsz
        cases hv : nodOf l v with
        | none =>
          have HI : Hid (PathI w2 wr u6 d gn ((nodOf l v).getD NodG.zero)) := ⟨hI⟩
          have HD : Hid (wayN l (l.length + 1) x = d ∧ topN l (l.length + 1) x = v) := ⟨by rw [HW.out, HTp.out, (way_none hv _).1, (way_none hv _).2, List.append_nil]; exact ⟨rfl, rfl⟩⟩
          have hdn : d ≠ [] := by rw [← HD.out.1, (way_some HN0.out _).1]; simp
          have hpn : partsN d ≠ [] := by intro e; have := partsN_len d; rw [e] at this; cases d <;> simp at *
          have hp0 : (0 : Int) < ((partsN d).length : Int) := by have := List.length_pos_iff.2 hpn; omega
          have hcz : (NumR.cat (partsN d).reverse).length ≤ 1099511627776 := by rw [cat_partsN, NumR.size_list]; omega
          have hve := way_end HE.out hv
          obtain ⟨g, cp, hu6, hbg, hlg, hlc, _⟩ := TxtRow.at hI.row hpn
          subst hu6
          clear hI hv hdn
          rcases hve with rfl | rfl
          · have HR : Hid (pathB l x = pathA d) := ⟨by rw [HF.out, HD.out.1, HD.out.2, if_neg (by omega)]⟩
            have hrv := reverse_any (partsN d) w2.heap.size g cp wr HI.out.row (by omega)
            go_wp2_with (first | (go_at_call 33; refine hrv.mono ?_; rintro e w4 ⟨⟨ev, rfl⟩, ho4, hg4⟩; have hj := joined_rev (partsN d) w2.heap.size g cp w4 ho4 hcz (by omega); have HB4 : Hid (Below w2.heap.size w2 w4) := ⟨HI.out.below.grown hg4 HI.out.below.size (fun k e => by cases e; exact hbg)⟩; clear hrv ho4 hg4) | (go_at_call 34; refine hj.mono ?_; rintro e w5 ⟨rfl, hb5⟩; clear hj))
            go_ret
            exact ⟨by rw [HR.out, cat_partsN, bytes_back]; rfl, H3.out.below.trans ((HB4.out.trans (hb5.mono HB4.out.size)).mono hB2)⟩
          · have HR : Hid (pathB l x = ⟨#[126]⟩ ++ pathA d) := ⟨by rw [HF.out, HD.out.1, HD.out.2, if_pos rfl]⟩
            have hcz2 : (NumR.cat (partsN d ++ [(⟨#[126]⟩ : ByteArray)]).reverse).length ≤ 1099511627776 := by rw [cat_top, NumR.size_list, ByteArray.size_append]; have : ByteArray.size ⟨#[126]⟩ = 1 := rfl; omega
            have hpl2 : (partsN d ++ [(⟨#[126]⟩ : ByteArray)]).length ≤ 303 := by simp; omega
            obtain ⟨ps, hps⟩ : ∃ ps, ps = partsN d ++ [(⟨#[126]⟩ : ByteArray)] := ⟨_, rfl⟩
            rw [← hps] at hcz2 hpl2
            have HPS := hide hps
            have hpn2 : ps ≠ [] := by rw [hps]; simp
            have hpsl : (partsN d).length + 1 = ps.length := by rw [hps]; simp
            clear hps
            go_wp2_with (first | (at_builtin; refine wpList_append_T rfl _ _ rfl w2.heap.size (.slice (some ⟨g, 0, none⟩) (partsN d).length cp) (partsN d) rfl (HI.out.row.stays ((Below.refl _ _).alloc (Nat.le_refl _) _)) ⟨wr.heap.size, 0, none⟩ [⟨#[126]⟩] 1 rfl (news1 wr _ _) (by simp; omega) (by have := HI.out.below.size; simp; omega) ?_; intro v1 w3 ho3 hg3; have hA3 := HI.out.after hg3; have HB3 := hide hA3.1; rw [← HPS.out] at ho3; obtain ⟨g1, c1, rfl, hbg1, _, _, _⟩ := TxtRow.at ho3 hpn2; have hrv := reverse_any ps w2.heap.size g1 c1 w3 ho3 (by omega); clear hA3 ho3 hg3) | (go_at_call 33; refine hrv.mono ?_; rintro e w4 ⟨⟨ev, rfl⟩, ho4, hg4⟩; have hj := joined_rev ps w2.heap.size g1 c1 w4 ho4 hcz2 (by omega); have HB4 : Hid (Below w2.heap.size w2 w4) := ⟨HB3.out.grown hg4 HB3.out.size (fun k e => by cases e; exact hbg1)⟩; clear hrv ho4 hg4) | (go_at_call 34; refine hj.mono ?_; rintro e w5 ⟨rfl, hb5⟩; clear hj))
            go_ret
            exact ⟨by rw [HR.out, HPS.out, cat_top, bytes_back]; rfl, H3.out.below.trans ((HB4.out.trans (hb5.mono HB4.out.size)).mono hB2)⟩
        | some m =>
          rw [hv] at hI
          have HI : Hid (PathI w2 wr u6 d gn m) := ⟨hI⟩
          obtain ⟨hk, hw, htp, hms⟩ := way_step HQ.out.1 HQ.out.2 HE.out hv
          have HK := hide (And.intro hk (And.intro hw (And.intro htp hms)))
          have hmm := (nodOf_some hv).1
          have hmz : m.name.size ≤ 1048576 := HZ.out m hmm
          have HPr : Hid (In64 m.parent) := ⟨(HG.out m hmm).2⟩
          obtain ⟨c0, c1, c2, c3, _⟩ := cells4 hI.lies
          clear hI hk hw htp hms hv hmm
          cases hp : nodOf l m.parent with
          | none =>
            have HP : Hid (kvAt (kvOf l) m.parent = none) := ⟨by rw [kvAt_of]; exact hp⟩
            have HP0 := hide hp
            clear hp
            go_wp2_with (first | (at_builtin; refine wpList_append_T rfl _ _ rfl w2.heap.size u6 (partsN d) rfl (HI.out.row.stays ((Below.refl _ _).alloc (Nat.le_refl _) _)) ⟨wr.heap.size, 0, none⟩ [m.name, ⟨#[47]⟩] 2 rfl (news2 wr _ _ _) (by simp; omega) (by have := HI.out.below.size; simp; omega) ?_; intro v1 w3 ho3 hg3; have hA3 := HI.out.after hg3; have HA3 := hide hA3; have HO3 := hide ho3; obtain ⟨e0, e1, e2, e3, _⟩ := cells4 hA3.2; clear hA3 ho3 hg3 c0 c1 c2 c3) | (at_lookup; refine wpList_look_none _ rfl _ _ rfl B (kvOf l) rfl ((HM.out.below HA3.out.1 HM.out.lt).stays ((Below.refl _ _).alloc (Nat.le_refl _) _)) m.parent HPr.out rfl HP.out ?_))
            go_roundw
            case rel =>
              refine ⟨m.parent, d ++ [m.name], _, rfl, rfl, by rw [HP0.out]; rfl, ends_mono (Nat.le_succ _) HK.out.1, by rw [HW.out, HK.out.2.1, List.append_assoc]; rfl, by rw [HTp.out, HK.out.2.2.1], ?_, ?_, ?_⟩
              · have h1 := HK.out.2.2.2; have h2 := HST.out; simp; omega
              · have h1 := HSZ.out; rw [pathA_size]; simp; omega
              · rw [HP0.out]
                exact PathI.next HA3.out.1 (by rw [partsN_snoc]; exact HO3.out) NodG.zero
            case measure => exact HK.out.2.2.2
          | some m2 =>
            have HP : Hid (kvAt (kvOf l) m.parent = some m2) := ⟨by rw [kvAt_of]; exact hp⟩
            have HP0 := hide hp
            clear hp
            go_wp2_with (first | (at_builtin; refine wpList_append_T rfl _ _ rfl w2.heap.size u6 (partsN d) rfl (HI.out.row.stays ((Below.refl _ _).alloc (Nat.le_refl _) _)) ⟨wr.heap.size, 0, none⟩ [m.name, ⟨#[47]⟩] 2 rfl (news2 wr _ _ _) (by simp; omega) (by have := HI.out.below.size; simp; omega) ?_; intro v1 w3 ho3 hg3; have hA3 := HI.out.after hg3; have HA3 := hide hA3; have HO3 := hide ho3; obtain ⟨e0, e1, e2, e3, _⟩ := cells4 hA3.2; clear hA3 ho3 hg3 c0 c1 c2 c3) | (at_lookup; refine wpList_look_some _ rfl _ _ rfl B (kvOf l) rfl ((HM.out.below HA3.out.1 HM.out.lt).stays ((Below.refl _ _).alloc (Nat.le_refl _) _)) m.parent HPr.out rfl m2 HP.out ?_))
            go_roundw
            case rel =>
              refine ⟨m.parent, d ++ [m.name], _, rfl, rfl, by rw [HP0.out]; rfl, ends_mono (Nat.le_succ _) HK.out.1, by rw [HW.out, HK.out.2.1, List.append_assoc]; rfl, by rw [HTp.out, HK.out.2.2.1], ?_, ?_, ?_⟩
              · have h1 := HK.out.2.2.2; have h2 := HST.out; simp; omega
              · have h1 := HSZ.out; rw [pathA_size]; simp; omega
              · rw [HP0.out]
                exact PathI.next HA3.out.1 (by rw [partsN_snoc]; exact HO3.out) m2
            case measure => exact HK.out.2.2.2
end Go.Proofs.Ytcpgkalafkhlgaf.OpR
