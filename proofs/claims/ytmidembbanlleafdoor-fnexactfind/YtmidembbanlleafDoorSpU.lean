/- Proves what spec tells of trees: ways up, TreeRight, Above. -/
import Derived.Test.YtmidembbanlleafDoorCls
import Derived.Test.YtmidembbanlleafDoorTrU
namespace Go.Proofs.YtmidembbanlleafDoor.OpR
open Go.ChangeShapes Go.WideShapes Go.ChangeAt Go.RowKit
set_option linter.unusedVariables false

theorem at_cases (l : List NodG) (x : Int) : (atI l x = -1 ∧ nodOf l x = none) ∨ ∃ (k : Nat) (hk : k < l.length), atI l x = k ∧ nodOf l x = some l[k] ∧ l[k].id = x := by
  unfold atI nodOf
  cases e : l.findIdx? (fun n => decide (n.id = x)) with
  | none =>
    refine .inl ⟨rfl, ?_⟩
    rw [List.find?_eq_none]
    intro n hn
    rw [List.findIdx?_eq_none_iff.1 e n hn]
    simp
  | some k =>
    obtain ⟨hk, h1, h2⟩ := List.findIdx?_eq_some_iff_getElem.1 e
    refine .inr ⟨k, hk, rfl, ?_, by simpa using h1⟩
    rw [List.find?_eq_some_iff_getElem]
    exact ⟨h1, k, hk, rfl, fun j hj => by simpa using h2 j hj⟩
/-- A variable of one cell, behind calls. -/
structure Box1 (w c : World) (g : Nat) (v : Value) (T : TypeId) : Prop where
  below : Below w.heap.size w c
  lies : c.heap[g]? = some (.cells #[v] T (0, 0))
theorem Box1.start (w : World) (v : Value) (T : TypeId) : Box1 w (w.alloc (.cells #[v] T)) w.heap.size v T := ⟨(Below.refl _ _).alloc (Nat.le_refl _) _, heap_alloc_new w _⟩
theorem Box1.step {w c c' : World} {g : Nat} {v : Value} {T : TypeId} (h : Box1 w c g v T) (hb : Below c.heap.size c c') : Box1 w c' g v T :=
  ⟨h.below.trans (hb.mono h.below.size), (hb.block _ (Array.getElem?_eq_some_iff.1 h.lies).1).trans h.lies⟩
theorem Box1.drew {w c : World} {g : Nat} {v : Value} {T : TypeId} (h : Box1 w c g v T) : Box1 w c.drew g v T := ⟨h.below.drew, h.lies⟩
theorem Box1.cell {w c : World} {g : Nat} {v : Value} {T : TypeId} (h : Box1 w c g v T) : c.cell? ⟨g, 0, none⟩ = some v := (cells1 h.lies).1

set_option maxRecDepth 100000 in
set_option maxHeartbeats 400000 in
theorem sEnds_any (l : List NodG) (ao : Option Addr) (cap : Nat) (x : Int) (w : World) (hl : l.length ≤ 1048576) (hA : NodesAt w ao l) :
    Calls Tryd.prog 24 #[.agg #[.slice ao l.length cap], .int .i64 x] w fun e w' => e = .returned (.bool (endsF (par l) (l.length + 1) x)) ∧ Below w.heap.size w w' := by
  have hat := fun x W (hW : Below w.heap.size w W) => sAt_any l ao cap x W (by unfold maxLen; omega) (hA.stays hW)
  have HT := hide hat
  have HA : Hid (NodesAt w ao l) := ⟨hA⟩
  clear hA hat
  go_enter Tryd.func24, Tryd.ntmps24
  go_wp2
  go_loopw [1, 5] (fun y i wr => ∃ (k : Nat) (z : Int), k ≤ l.length + 1 ∧ y = .int .i64 z ∧ i = .int .i64 k ∧ endsF (par l) (l.length + 1) x = endsF (par l) (l.length + 1 - k) z ∧ Box1 w wr w.heap.size (.slice ao l.length cap) 29) (fun _ i _ => l.length + 1 - (intOf i).toNat)
  case atStart => exact ⟨0, x, by omega, rfl, rfl, rfl, Box1.start w _ _⟩
  case round =>
    obtain ⟨k, z, hk, rfl, rfl, he, hbx⟩ := hrel
    have HE := hide he
    have HB := hide hbx
    have hc := hbx.cell
    clear he
    by_cases h : k ≤ l.length
    · have hi1 : (k : Int) ≤ (l.length : Int) := by omega
      have ek : l.length + 1 - k = (l.length - k) + 1 := by omega
      by_cases h0 : z = 0
      · have HF : Hid (endsF (par l) (l.length + 1) x = true) := ⟨by rw [HE.out, ek]; exact ends_low (.inl h0)⟩
        go_wp2
        go_ret
        exact ⟨by rw [HF.out]; rfl, HB.out.below⟩
      · by_cases h1 : z = 1
        · have HF : Hid (endsF (par l) (l.length + 1) x = true) := ⟨by rw [HE.out, ek]; exact ends_low (.inr h1)⟩
          go_wp2
          go_ret
          exact ⟨by rw [HF.out]; rfl, HB.out.below⟩
        · have b0 : (z == 0) = false := beq_eq_false_iff_ne.2 h0
          have b1 : (z == 1) = false := beq_eq_false_iff_ne.2 h1
          rcases at_cases l z with ⟨ea, en⟩ | ⟨j, hj, ea, en, _⟩
          · have HF : Hid (endsF (par l) (l.length + 1) x = false) := ⟨by rw [HE.out]; exact ends_stop h0 h1 (by unfold par; rw [en]; rfl)⟩
            have HEA := hide ea
            clear ea en ek
            go_wp2_with (first | (go_at_call 26; refine (HT.out z wr HB.out.below).mono ?_; rintro e w1 ⟨rfl, hb1⟩; rw [HEA.out]))
            go_ret
            exact ⟨by rw [HF.out]; rfl, (HB.out.step hb1).below⟩
          · have HEA := hide ea
            have HF : Hid (endsF (par l) (l.length + 1) x = endsF (par l) (l.length + 1 - (k + 1)) l[j].parent) := ⟨by rw [HE.out, ek, ends_step h0 h1 (show par l z = some l[j].parent by unfold par; rw [en]; rfl)]; congr 1; omega⟩
            obtain ⟨b, off, rfl, hlt, ho, _⟩ := HA.out j hj
            have hj0 : (0 : Int) ≤ (j : Int) := by omega
            have hj1 : (j : Int) < (l.length : Int) := by omega
            have HO := hide ho
            clear ea en ek ho hbx
            go_wp2_with (first | (go_at_call 26; refine (HT.out z wr HB.out.below).mono ?_; rintro e w1 ⟨rfl, hb1⟩; rw [HEA.out]; have hB1 := HB.out.step hb1; have hc1 := hB1.cell; obtain ⟨c0, c1, c2, c3⟩ := HO.out.block (hB1.below.block b hlt); clear hc))
            go_roundw
            case rel => exact ⟨k + 1, l[j].parent, by omega, rfl, by go_num, HF.out, hB1⟩
            case measure => simp [intOf]; omega
    · obtain rfl : k = l.length + 1 := by omega
      have HF : Hid (endsF (par l) (l.length + 1) x = false) := ⟨by rw [HE.out, Nat.sub_self]; rfl⟩
      go_wp2
      go_ret
      exact ⟨by rw [HF.out]; rfl, HB.out.below⟩

/-- What is known of the variables of the loop in TreeRight. -/
structure TreeV (w c : World) (n : NodG) (g : Nat) (v : Value) : Prop where
  below : Below w.heap.size w c
  tree : c.heap[w.heap.size]? = some (.cells #[v] 29 (0, 0))
  node : c.heap[g]? = some (.cells #[.int .i64 n.id, .int .i64 n.parent, .string n.name, .slice n.pao n.props.length n.pcap] 53 (0, 0))
theorem TreeV.step {w c c' : World} {n : NodG} {g : Nat} {v : Value} (h : TreeV w c n g v) (hb : Below c.heap.size c c') : TreeV w c' n g v :=
  ⟨h.below.trans (hb.mono h.below.size), (hb.block _ (Array.getElem?_eq_some_iff.1 h.tree).1).trans h.tree, (hb.block _ (Array.getElem?_eq_some_iff.1 h.node).1).trans h.node⟩
theorem TreeV.drew {w c : World} {n : NodG} {g : Nat} {v : Value} (h : TreeV w c n g v) : TreeV w c.drew n g v := ⟨h.below.drew, h.tree, h.node⟩

theorem TreeV.more {w c c' : World} {n : NodG} {g : Nat} {v : Value} (h : TreeV w c n g v) (hq : ∃ q, c' = c.drewN q) : TreeV w c' n g v := by
  obtain ⟨q, rfl⟩ := hq
  exact ⟨h.below.drewN q, h.tree, h.node⟩
theorem to_next {l : List NodG} {k : Nat} {n : NodG} (h1 : ∀ j (hj : j < l.length), j < k → nodOk l l[j] = true) {hk : k < l.length} (hn : l[k] = n) (ho : nodOk l n = true) : ∀ j (hj : j < l.length), j < k + 1 → nodOk l l[j] = true := by
  intro j hj hjk
  rcases Nat.lt_or_ge j k with h' | h'
  · exact h1 j hj h'
  · obtain rfl : j = k := by omega
    rw [hn]; exact ho
theorem rise_next {l : List NodG} {m : Nat} {n : NodG} (h1 : ∀ j (hj : j + 1 < l.length), j + 1 < m + 1 → l[j].id < l[j + 1].id) {hk : m + 1 < l.length} (hn : l[m + 1] = n) (ho : l[m].id < n.id) : ∀ j (hj : j + 1 < l.length), j + 1 < m + 1 + 1 → l[j].id < l[j + 1].id := by
  intro j hj hjk
  rcases Nat.lt_or_ge j m with h' | h'
  · exact h1 j hj (by omega)
  · obtain rfl : j = m := by omega
    rw [hn]; exact ho

set_option maxRecDepth 100000 in
set_option maxHeartbeats 1000000 in
theorem sTree_any (l : List NodG) (ao : Option Addr) (cap : Nat) (w : World) (hl : l.length ≤ 1048576) (hA : NodesAt w ao l) (hS : ∀ n ∈ l, Sized1 1048576 n) :
    Calls Tryd.prog 10 #[.agg #[.slice ao l.length cap]] w fun e w' => e = .returned (.bool (treeRight l)) ∧ Below w.heap.size w w' := by
  have hen := fun x W (hW : Below w.heap.size w W) => sEnds_any l ao cap x W hl (hA.stays hW)
  have hpr := fun n (hn : n ∈ l) W (hW : Below w.heap.size w W) => sProps_any n.props n.pao n.pcap W (by have := (hS n hn).2.1; unfold maxLen; omega) ((hA.props n hn).stays hW) (fun p hp => by have := (hS n hn).2.2 p hp; unfold maxLen; omega)
  have hnr := fun n (hn : n ∈ l) W => NameR.spec_any n.name W (by have := (hS n hn).1; unfold maxLen; omega)
  have HEN := hide hen
  have HPR := hide hpr
  have HNR := hide hnr
  have HA : Hid (NodesAt w ao l) := ⟨hA⟩
  clear hA hS hen hpr hnr
  by_cases h150 : l.length ≤ 150
  · go_enter Tryd.func10, Tryd.ntmps10
    go_wp2
    go_loopw [3] (fun i wr => ∃ (k : Nat), k ≤ l.length ∧ i = .int .i64 k ∧ (∀ j (hj : j < l.length), j < k → nodOk l l[j] = true) ∧ (∀ j (hj : j + 1 < l.length), j + 1 < k → l[j].id < l[j + 1].id) ∧ Box1 w wr w.heap.size (.slice ao l.length cap) 29) (fun i _ => l.length - (intOf i).toNat)
    case atStart => exact ⟨0, by omega, rfl, fun j _ h => by omega, fun j _ h => by omega, Box1.start w _ _⟩
    case round =>
      obtain ⟨k, hk, rfl, h1, h2, hbx⟩ := hrel
      have H1 := hide h1
      have H2 := hide h2
      have HB := hide hbx
      have hc := hbx.cell
      clear h1 h2
      by_cases h : k < l.length
      · obtain ⟨b, off, rfl, hlt, ho, _⟩ := HA.out k h
        obtain ⟨c0, c1, c2, c3⟩ := ho.block (hbx.below.block b hlt)
        have hi0 : (0 : Int) ≤ (k : Int) := by omega
        have hi1 : (k : Int) < (l.length : Int) := by omega
        have hmem : l[k] ∈ l := List.getElem_mem h
        obtain ⟨n, hn⟩ : ∃ n, l[k] = n := ⟨_, rfl⟩
        rw [hn] at c0 c1 c2 c3 hmem
        have HN := hide hn
        have HM := hide hmem
        clear hn hmem ho hbx
        go_wp2_with fail
        have hTV0 : TreeV w (wr.alloc (.cells #[.int .i64 n.id, .int .i64 n.parent, .string n.name, .slice n.pao n.props.length n.pcap] 53)) n wr.heap.size (.slice (some ⟨b, off, none⟩) l.length cap) :=
          ⟨HB.out.below.alloc HB.out.below.size _, (Below.heap_alloc _ _ _ (Array.getElem?_eq_some_iff.1 HB.out.lies).1).trans HB.out.lies, heap_alloc_new _ _⟩
        obtain ⟨X, hX⟩ : ∃ X, wr.alloc (.cells #[.int .i64 n.id, .int .i64 n.parent, .string n.name, .slice n.pao n.props.length n.pcap] 53) = X := ⟨_, rfl⟩
        rw [hX] at hTV0 ⊢
        have HTV := hide hTV0
        obtain ⟨t0, t1⟩ := cells1 hTV0.tree
        obtain ⟨n0, n1, n2, n3, _, _, _, _⟩ := cells4 hTV0.node
        clear hX c0 c1 c2 c3 hc hTV0
        have hNode : ∀ W, Calls Tryd.prog 21 #[.int .i64 n.id] W fun e w' => e = .returned (.bool (isIn n.id 2 1000000)) ∧ w' = W := fun W => (node_any n.id W).mono (fun e w' h => ⟨h.1, h.2.symm⟩)
        have hName := HNR.out n HM.out
        have HProps := hide (HPR.out n HM.out)
        cases hq1 : isIn n.id 2 1000000
        · simp only [hq1] at hNode
          have HF : Hid (treeRight l = false) := ⟨tree_no fun ht => by have := ht.2.2 n HM.out; simp [nodOk, hq1] at this⟩
          go_quiet (first | (go_at_call 21; refine Calls.quiet_of_same (hNode _)) | (go_at_call 22; refine Calls.quiet_of_same (hName _)) | (go_at_call 23; refine Calls.quiet_of (HProps.out _ (HTV.out.below.drewN _))))
          go_wp2
          go_ret
          exact ⟨by rw [HF.out]; rfl, HTV.out.below.drewN _⟩
        · simp only [hq1] at hNode
          rcases Nat.eq_zero_or_pos k with hk0 | hk0
          · subst hk0
            cases hq2 : NameR.nmB n.name
            · simp only [hq2] at hName
              have HF : Hid (treeRight l = false) := ⟨tree_no fun ht => by have := ht.2.2 n HM.out; simp [nodOk, hq2] at this⟩
              go_quiet (first | (go_at_call 21; refine Calls.quiet_of_same (hNode _)) | (go_at_call 22; refine Calls.quiet_of_same (hName _)) | (go_at_call 23; refine Calls.quiet_of (HProps.out _ (HTV.out.below.drewN _))))
              go_wp2
              go_ret
              exact ⟨by rw [HF.out]; rfl, HTV.out.below.drewN _⟩
            · simp only [hq2] at hName
              cases hq3 : propsOk n.props
              · have HProps := hide (fun W hW => by have := HPR.out n HM.out W hW; rw [hq3] at this; exact this)
                have HF : Hid (treeRight l = false) := ⟨tree_no fun ht => by have := ht.2.2 n HM.out; simp [nodOk, hq3] at this⟩
                go_quiet (first | (go_at_call 21; refine Calls.quiet_of_same (hNode _)) | (go_at_call 22; refine Calls.quiet_of_same (hName _)) | (go_at_call 23; refine Calls.quiet_of (HProps.out _ (HTV.out.below.drewN _))))
                go_wp2
                go_ret
                exact ⟨by rw [HF.out]; rfl, HTV.out.below.drewN _⟩
              · have HProps := hide (fun W hW => by have := HPR.out n HM.out W hW; rw [hq3] at this; exact this)
                cases hq4 : endsF (par l) (l.length + 1) n.id
                · have HEnds := hide (fun W hW => by have := HEN.out n.id W hW; rw [hq4] at this; exact this)
                  have HF : Hid (treeRight l = false) := ⟨tree_no fun ht => by have := ht.2.2 n HM.out; simp [nodOk, hq4] at this⟩
                  haveI : Nonempty (Cls fun W => TreeV w W n wr.heap.size (.slice (some ⟨b, off, none⟩) l.length cap)) := ⟨⟨X, HTV.out⟩⟩
                  have T0 : ∀ q : (Cls fun W => TreeV w W n wr.heap.size (.slice (some ⟨b, off, none⟩) l.length cap)), q.wd.cell? ⟨w.heap.size, 0, none⟩ = some (.slice (some ⟨b, off, none⟩) l.length cap) := fun q => (cells1 q.ok.tree).1
                  have N0 : ∀ q : (Cls fun W => TreeV w W n wr.heap.size (.slice (some ⟨b, off, none⟩) l.length cap)), q.wd.cell? ⟨wr.heap.size, 0, none⟩ = some (.int .i64 n.id) := fun q => (cells4 q.ok.node).1
                  have N2 : ∀ q : (Cls fun W => TreeV w W n wr.heap.size (.slice (some ⟨b, off, none⟩) l.length cap)), q.wd.cell? ⟨wr.heap.size, 2, none⟩ = some (.string n.name) := fun q => (cells4 q.ok.node).2.2.1
                  have N3 : ∀ q : (Cls fun W => TreeV w W n wr.heap.size (.slice (some ⟨b, off, none⟩) l.length cap)), q.wd.cell? ⟨wr.heap.size, 3, none⟩ = some (.slice n.pao n.props.length n.pcap) := fun q => (cells4 q.ok.node).2.2.2.1
                  refine wp_region_class (ι := (Cls fun W => TreeV w W n wr.heap.size (.slice (some ⟨b, off, none⟩) l.length cap))) Cls.wd (by kernel_rfl) (by kernel_rfl) ⟨X.drew, HTV.out.drew⟩ rfl ?_
                  clear t0 n0 n1 n2 n3
                  repeat (go_big_quiet_step (first | (go_at_call 21; refine (hNode _).mono ?_; rintro e w1 ⟨rfl, rfl⟩; exact ⟨rfl, _, rfl⟩) | (go_at_call 22; refine (hName _).mono ?_; rintro e w1 ⟨rfl, rfl⟩; exact ⟨rfl, _, rfl⟩) | (go_at_call 23; rename_i q; refine (HProps.out _ q.ok.below).mono ?_; rintro e w3 ⟨rfl, hw3⟩; exact ⟨rfl, ⟨w3, q.ok.more hw3⟩, rfl⟩) | (go_at_call 24; rename_i q; refine (HEnds.out _ q.ok.below).mono ?_; rintro e w4 ⟨rfl, hb4⟩; exact ⟨rfl, ⟨w4, q.ok.step hb4⟩, rfl⟩)))
                  refine wpQuiet_nil ?_
                  rintro _ ⟨⟨w4, hV4⟩, rfl⟩
                  have HV4 := hide hV4
                  clear T0 N0 N2 N3 hV4
                  go_wp2
                  go_ret
                  exact ⟨by rw [HF.out]; rfl, HV4.out.below⟩
                · have HEnds := hide (fun W hW => by have := HEN.out n.id W hW; rw [hq4] at this; exact this)
                  have HOK : Hid (nodOk l n = true) := ⟨by simp [nodOk, hq1, hq2, hq3, hq4]⟩
                  haveI : Nonempty (Cls fun W => TreeV w W n wr.heap.size (.slice (some ⟨b, off, none⟩) l.length cap)) := ⟨⟨X, HTV.out⟩⟩
                  have T0 : ∀ q : (Cls fun W => TreeV w W n wr.heap.size (.slice (some ⟨b, off, none⟩) l.length cap)), q.wd.cell? ⟨w.heap.size, 0, none⟩ = some (.slice (some ⟨b, off, none⟩) l.length cap) := fun q => (cells1 q.ok.tree).1
                  have N0 : ∀ q : (Cls fun W => TreeV w W n wr.heap.size (.slice (some ⟨b, off, none⟩) l.length cap)), q.wd.cell? ⟨wr.heap.size, 0, none⟩ = some (.int .i64 n.id) := fun q => (cells4 q.ok.node).1
                  have N2 : ∀ q : (Cls fun W => TreeV w W n wr.heap.size (.slice (some ⟨b, off, none⟩) l.length cap)), q.wd.cell? ⟨wr.heap.size, 2, none⟩ = some (.string n.name) := fun q => (cells4 q.ok.node).2.2.1
                  have N3 : ∀ q : (Cls fun W => TreeV w W n wr.heap.size (.slice (some ⟨b, off, none⟩) l.length cap)), q.wd.cell? ⟨wr.heap.size, 3, none⟩ = some (.slice n.pao n.props.length n.pcap) := fun q => (cells4 q.ok.node).2.2.2.1
                  refine wp_region_class (ι := (Cls fun W => TreeV w W n wr.heap.size (.slice (some ⟨b, off, none⟩) l.length cap))) Cls.wd (by kernel_rfl) (by kernel_rfl) ⟨X.drew, HTV.out.drew⟩ rfl ?_
                  clear t0 n0 n1 n2 n3
                  repeat (go_big_quiet_step (first | (go_at_call 21; refine (hNode _).mono ?_; rintro e w1 ⟨rfl, rfl⟩; exact ⟨rfl, _, rfl⟩) | (go_at_call 22; refine (hName _).mono ?_; rintro e w1 ⟨rfl, rfl⟩; exact ⟨rfl, _, rfl⟩) | (go_at_call 23; rename_i q; refine (HProps.out _ q.ok.below).mono ?_; rintro e w3 ⟨rfl, hw3⟩; exact ⟨rfl, ⟨w3, q.ok.more hw3⟩, rfl⟩) | (go_at_call 24; rename_i q; refine (HEnds.out _ q.ok.below).mono ?_; rintro e w4 ⟨rfl, hb4⟩; exact ⟨rfl, ⟨w4, q.ok.step hb4⟩, rfl⟩)))
                  refine wpQuiet_nil ?_
                  rintro _ ⟨⟨w4, hV4⟩, rfl⟩
                  have HV4 := hide hV4
                  clear T0 N0 N2 N3 hV4
                  go_wp2
                  go_roundw
                  case rel => exact ⟨0 + 1, by omega, by go_num, to_next H1.out HN.out HOK.out, fun j hj h => by omega, ⟨HV4.out.below, HV4.out.tree⟩⟩
                  case measure => simp [intOf]; omega
          · obtain ⟨m, rfl⟩ : ∃ m, k = m + 1 := ⟨k - 1, by omega⟩
            obtain ⟨b', off', hq, hlt', ho', _⟩ := HA.out m (by omega)
            cases hq
            obtain ⟨p0, _, _, _⟩ := ho'.block (HTV.out.below.block b hlt)
            have hm0 : (0 : Int) ≤ (m : Int) := by omega
            have hm1 : (m : Int) < (l.length : Int) := by omega
            have hm2 : (0 : Int) < (m : Int) + 1 := by omega
            have hW : IntKind.i64.wrap (m : Int) = (m : Int) := by rw [IntKind.wrap_i64]; omega
            have hW2 : wrap64 (m : Int) = (m : Int) := by unfold wrap64; omega
            have HO' := hide ho'
            clear ho'
            by_cases hri : l[m].id < n.id
            · have HRI := hide hri
              have hri2 : decide (n.id ≤ l[m].id) = false := by simp; omega
              cases hq2 : NameR.nmB n.name
              · simp only [hq2] at hName
                have HF : Hid (treeRight l = false) := ⟨tree_no fun ht => by have := ht.2.2 n HM.out; simp [nodOk, hq2] at this⟩
                go_quiet (first | (go_at_call 21; refine Calls.quiet_of_same (hNode _)) | (go_at_call 22; refine Calls.quiet_of_same (hName _)) | (go_at_call 23; refine Calls.quiet_of (HProps.out _ (HTV.out.below.drewN _))))
                go_wp2
                go_ret
                exact ⟨by rw [HF.out]; rfl, HTV.out.below.drewN _⟩
              · simp only [hq2] at hName
                cases hq3 : propsOk n.props
                · have HProps := hide (fun W hW => by have := HPR.out n HM.out W hW; rw [hq3] at this; exact this)
                  have HF : Hid (treeRight l = false) := ⟨tree_no fun ht => by have := ht.2.2 n HM.out; simp [nodOk, hq3] at this⟩
                  go_quiet (first | (go_at_call 21; refine Calls.quiet_of_same (hNode _)) | (go_at_call 22; refine Calls.quiet_of_same (hName _)) | (go_at_call 23; refine Calls.quiet_of (HProps.out _ (HTV.out.below.drewN _))))
                  go_wp2
                  go_ret
                  exact ⟨by rw [HF.out]; rfl, HTV.out.below.drewN _⟩
                · have HProps := hide (fun W hW => by have := HPR.out n HM.out W hW; rw [hq3] at this; exact this)
                  cases hq4 : endsF (par l) (l.length + 1) n.id
                  · have HEnds := hide (fun W hW => by have := HEN.out n.id W hW; rw [hq4] at this; exact this)
                    have HF : Hid (treeRight l = false) := ⟨tree_no fun ht => by have := ht.2.2 n HM.out; simp [nodOk, hq4] at this⟩
                    haveI : Nonempty (Cls fun W => TreeV w W n wr.heap.size (.slice (some ⟨b, off, none⟩) l.length cap)) := ⟨⟨X, HTV.out⟩⟩
                    have T0 : ∀ q : (Cls fun W => TreeV w W n wr.heap.size (.slice (some ⟨b, off, none⟩) l.length cap)), q.wd.cell? ⟨w.heap.size, 0, none⟩ = some (.slice (some ⟨b, off, none⟩) l.length cap) := fun q => (cells1 q.ok.tree).1
                    have N0 : ∀ q : (Cls fun W => TreeV w W n wr.heap.size (.slice (some ⟨b, off, none⟩) l.length cap)), q.wd.cell? ⟨wr.heap.size, 0, none⟩ = some (.int .i64 n.id) := fun q => (cells4 q.ok.node).1
                    have N2 : ∀ q : (Cls fun W => TreeV w W n wr.heap.size (.slice (some ⟨b, off, none⟩) l.length cap)), q.wd.cell? ⟨wr.heap.size, 2, none⟩ = some (.string n.name) := fun q => (cells4 q.ok.node).2.2.1
                    have N3 : ∀ q : (Cls fun W => TreeV w W n wr.heap.size (.slice (some ⟨b, off, none⟩) l.length cap)), q.wd.cell? ⟨wr.heap.size, 3, none⟩ = some (.slice n.pao n.props.length n.pcap) := fun q => (cells4 q.ok.node).2.2.2.1
                    have P0 : ∀ q : (Cls fun W => TreeV w W n wr.heap.size (.slice (some ⟨b, off, none⟩) l.length cap)), q.wd.cell? ⟨b, off + m * 4, none⟩ = some (.int .i64 l[m].id) := fun q => (HO'.out.block (q.ok.below.block b hlt)).1
                    refine wp_region_class (ι := (Cls fun W => TreeV w W n wr.heap.size (.slice (some ⟨b, off, none⟩) l.length cap))) Cls.wd (by kernel_rfl) (by kernel_rfl) ⟨X.drew, HTV.out.drew⟩ rfl ?_
                    clear t0 n0 n1 n2 n3 p0
                    repeat (go_big_quiet_step (first | (go_at_call 21; refine (hNode _).mono ?_; rintro e w1 ⟨rfl, rfl⟩; exact ⟨rfl, _, rfl⟩) | (go_at_call 22; refine (hName _).mono ?_; rintro e w1 ⟨rfl, rfl⟩; exact ⟨rfl, _, rfl⟩) | (go_at_call 23; rename_i q; refine (HProps.out _ q.ok.below).mono ?_; rintro e w3 ⟨rfl, hw3⟩; exact ⟨rfl, ⟨w3, q.ok.more hw3⟩, rfl⟩) | (go_at_call 24; rename_i q; refine (HEnds.out _ q.ok.below).mono ?_; rintro e w4 ⟨rfl, hb4⟩; exact ⟨rfl, ⟨w4, q.ok.step hb4⟩, rfl⟩)))
                    refine wpQuiet_nil ?_
                    rintro _ ⟨⟨w4, hV4⟩, rfl⟩
                    have HV4 := hide hV4
                    clear T0 N0 N2 N3 hV4 P0
                    go_wp2
                    go_ret
                    exact ⟨by rw [HF.out]; rfl, HV4.out.below⟩
                  · have HEnds := hide (fun W hW => by have := HEN.out n.id W hW; rw [hq4] at this; exact this)
                    have HOK : Hid (nodOk l n = true) := ⟨by simp [nodOk, hq1, hq2, hq3, hq4]⟩
                    haveI : Nonempty (Cls fun W => TreeV w W n wr.heap.size (.slice (some ⟨b, off, none⟩) l.length cap)) := ⟨⟨X, HTV.out⟩⟩
                    have T0 : ∀ q : (Cls fun W => TreeV w W n wr.heap.size (.slice (some ⟨b, off, none⟩) l.length cap)), q.wd.cell? ⟨w.heap.size, 0, none⟩ = some (.slice (some ⟨b, off, none⟩) l.length cap) := fun q => (cells1 q.ok.tree).1
                    have N0 : ∀ q : (Cls fun W => TreeV w W n wr.heap.size (.slice (some ⟨b, off, none⟩) l.length cap)), q.wd.cell? ⟨wr.heap.size, 0, none⟩ = some (.int .i64 n.id) := fun q => (cells4 q.ok.node).1
                    have N2 : ∀ q : (Cls fun W => TreeV w W n wr.heap.size (.slice (some ⟨b, off, none⟩) l.length cap)), q.wd.cell? ⟨wr.heap.size, 2, none⟩ = some (.string n.name) := fun q => (cells4 q.ok.node).2.2.1
                    have N3 : ∀ q : (Cls fun W => TreeV w W n wr.heap.size (.slice (some ⟨b, off, none⟩) l.length cap)), q.wd.cell? ⟨wr.heap.size, 3, none⟩ = some (.slice n.pao n.props.length n.pcap) := fun q => (cells4 q.ok.node).2.2.2.1
                    have P0 : ∀ q : (Cls fun W => TreeV w W n wr.heap.size (.slice (some ⟨b, off, none⟩) l.length cap)), q.wd.cell? ⟨b, off + m * 4, none⟩ = some (.int .i64 l[m].id) := fun q => (HO'.out.block (q.ok.below.block b hlt)).1
                    refine wp_region_class (ι := (Cls fun W => TreeV w W n wr.heap.size (.slice (some ⟨b, off, none⟩) l.length cap))) Cls.wd (by kernel_rfl) (by kernel_rfl) ⟨X.drew, HTV.out.drew⟩ rfl ?_
                    clear t0 n0 n1 n2 n3 p0
                    repeat (go_big_quiet_step (first | (go_at_call 21; refine (hNode _).mono ?_; rintro e w1 ⟨rfl, rfl⟩; exact ⟨rfl, _, rfl⟩) | (go_at_call 22; refine (hName _).mono ?_; rintro e w1 ⟨rfl, rfl⟩; exact ⟨rfl, _, rfl⟩) | (go_at_call 23; rename_i q; refine (HProps.out _ q.ok.below).mono ?_; rintro e w3 ⟨rfl, hw3⟩; exact ⟨rfl, ⟨w3, q.ok.more hw3⟩, rfl⟩) | (go_at_call 24; rename_i q; refine (HEnds.out _ q.ok.below).mono ?_; rintro e w4 ⟨rfl, hb4⟩; exact ⟨rfl, ⟨w4, q.ok.step hb4⟩, rfl⟩)))
                    refine wpQuiet_nil ?_
                    rintro _ ⟨⟨w4, hV4⟩, rfl⟩
                    have HV4 := hide hV4
                    clear T0 N0 N2 N3 hV4 P0
                    go_wp2
                    go_roundw
                    case rel => exact ⟨m + 1 + 1, by omega, by go_num, to_next H1.out HN.out HOK.out, rise_next H2.out HN.out HRI.out, ⟨HV4.out.below, HV4.out.tree⟩⟩
                    case measure => simp [intOf]; omega
            · have hri2 : n.id ≤ l[m].id := by omega
              have HF : Hid (treeRight l = false) := ⟨tree_no fun ht => by have := ht.2.1 m h; rw [HN.out] at this; exact hri this⟩
              go_quiet (first | (go_at_call 21; refine Calls.quiet_of_same (hNode _)) | (go_at_call 22; refine Calls.quiet_of_same (hName _)) | (go_at_call 23; refine Calls.quiet_of (HProps.out _ (HTV.out.below.drewN _))))
              go_wp2
              go_ret
              exact ⟨by rw [HF.out]; rfl, HTV.out.below.drewN _⟩
      · obtain rfl : k = l.length := by omega
        have HF : Hid (treeRight l = true) := ⟨tree_yes ⟨h150, fun i hi => H2.out i hi hi, fun n hn => by obtain ⟨j, hj, rfl⟩ := List.getElem_of_mem hn; exact H1.out j hj hj⟩⟩
        go_wp2
        go_ret
        exact ⟨by rw [HF.out]; rfl, HB.out.below⟩
  · have HF : Hid (treeRight l = false) := ⟨tree_no fun h => h150 h.1⟩
    go_enter Tryd.func10, Tryd.ntmps10
    go_wp2
    go_ret
    exact ⟨by rw [HF.out]; rfl, (Below.refl _ _).alloc (Nat.le_refl _) _⟩
end Go.Proofs.YtmidembbanlleafDoor.OpR
