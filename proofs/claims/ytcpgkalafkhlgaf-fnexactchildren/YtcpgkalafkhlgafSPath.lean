/- Proves what spec.PathOf tells. -/
import Derived.Test.YtcpgkalafkhlgafPathM
namespace Go.Proofs.Ytcpgkalafkhlgaf.OpR
open Go.ChangeShapes Go.WideShapes Go.ChangeAt Go.RowKit
set_option linter.unusedVariables false

theorem Box1.also {w c : World} {g : Nat} {v : Value} {T : TypeId} (h : Box1 w c g v T) (o : Obj) : Box1 w (c.alloc o) g v T := h.step ((Below.refl _ _).alloc (Nat.le_refl _) _)
theorem Box1.put {w c : World} {g : Nat} {v : Value} {T : TypeId} (h : Box1 w c g v T) {k : Nat} (hk : w.heap.size ≤ k) (hne : k ≠ g) (p : Nat) (vs : List Value) : Box1 w (putsG c k p vs) g v T := ⟨puts_below hk vs p _ h.below, (puts_other (Ne.symm hne) vs p _).trans h.lies⟩
set_option maxRecDepth 100000 in
set_option maxHeartbeats 1000000 in
theorem sPathIn_any (l : List NodG) (ao : Option Addr) (cap : Nat) (x : Int) (w : World) (hl : l.length ≤ 1048576) (hA : NodesAt w ao l) (hS : ∀ n ∈ l, Sized1 1048576 n) (ht : TreeR l) (he : endsF (par l) (l.length + 1) x = true) :
    Calls Try.prog 32 #[.agg #[.slice ao l.length cap], .int .i64 x] w fun e w' => e = .returned (.string (if topN l (l.length + 1) x = 1 then ⟨#[126]⟩ ++ pathA (wayN l (l.length + 1) x) else pathA (wayN l (l.length + 1) x))) ∧ Below w.heap.size w w' := by
  have hat := fun x W (hW : Below w.heap.size w W) => sAt_any l ao cap x W (by unfold maxLen; omega) (hA.stays hW)
  have HT := hide hat
  have HA := hide hA
  have HR := hide ht
  have HE0 := hide he
  have h150 := ht.1
  have HZ : Hid (∀ n ∈ l, n.name.size ≤ 1048576) := ⟨fun n hn => (hS n hn).1⟩
  obtain ⟨h0, h1⟩ := tree_par ht
  have H01 := hide (And.intro h0 h1)
  have H2 : Hid (∀ v n, nodOf l v = some n → (1 : Int) < v) := ⟨fun v n hn => by
    obtain ⟨hm, rfl⟩ := nodOf_some hn
    have := ht.2.2 n hm
    unfold nodOk at this
    rw [Bool.and_eq_true] at this
    have := this.1
    simp [isIn] at this
    omega⟩
  clear hA hat ht he h0 h1 hS
  obtain ⟨R, hR⟩ : ∃ R, (if topN l (l.length + 1) x = 1 then ⟨#[126]⟩ ++ pathA (wayN l (l.length + 1) x) else pathA (wayN l (l.length + 1) x)) = R := ⟨_, rfl⟩
  rw [hR]
  have HRe := hide hR
  clear hR
  go_enter Try.func32, Try.ntmps32
  go_wp2
  go_loopw [1, 5] (fun z p wr => ∃ (v : Int) (d : List ByteArray), z = .int .i64 v ∧ p = .string (pathA d) ∧ endsF (par l) (l.length + 1) v = true ∧ wayN l (l.length + 1) x = d ++ wayN l (l.length + 1) v ∧ topN l (l.length + 1) x = topN l (l.length + 1) v ∧ d.length + stepsF (par l) (l.length + 1) v ≤ l.length + 1 ∧ (pathA d).size ≤ d.length * 1048577 ∧ Box1 w wr w.heap.size (.slice ao l.length cap) 30) (fun z _ _ => stepsV (par l) (l.length + 1) z)
  case atStart => exact ⟨x, [], rfl, rfl, HE0.out, rfl, rfl, by simpa using steps_le _ _ _, Nat.le_refl _, Box1.start w _ _⟩
  case round =>
    obtain ⟨v, d, rfl, rfl, he, hw, htp, hst, hsz, hbx⟩ := hrel
    have hpz : (pathA d).size ≤ 400000000 := by
      have : d.length ≤ 151 := by omega
      omega
    have HST := hide hst
    have HSZ := hide hsz
    clear hst hsz
    have HE := hide he
    have HW := hide hw
    have HTp := hide htp
    have HB := hide hbx
    have hc := hbx.cell
    clear he hw htp hbx
    rcases at_cases l v with ⟨ea, en⟩ | ⟨j, hj, ea, en, _⟩
    · have HD : Hid (wayN l (l.length + 1) x = d ∧ topN l (l.length + 1) x = v) := ⟨by rw [HW.out, HTp.out, (way_none en _).1, (way_none en _).2, List.append_nil]; exact ⟨rfl, rfl⟩⟩
      rcases way_end HE.out en with hv | hv
      · have HF : Hid (R = pathA d) := ⟨by rw [← HRe.out, HD.out.1, HD.out.2, if_neg (by omega)]⟩
        subst hv
        clear ea en
        go_wp2
        go_ret
        exact ⟨by rw [HF.out]; rfl, HB.out.below⟩
      · have HF : Hid (R = ⟨#[126]⟩ ++ pathA d) := ⟨by rw [← HRe.out, HD.out.1, HD.out.2, if_pos hv]⟩
        subst hv
        have hpz' : ¬ 9223372036854775807 < 1 + (pathA d).size := by omega
        clear ea en
        go_wp2
        go_ret
        exact ⟨by rw [HF.out]; rfl, HB.out.below⟩
    · have hv1 := H2.out v _ en
      obtain ⟨hk, hw, htp, hms⟩ := way_step H01.out.1 H01.out.2 HE.out en
      have HN := hide (And.intro hk (And.intro hw (And.intro htp hms)))
      have HEA := hide ea
      obtain ⟨b, off, rfl, hlt, ho, _⟩ := HA.out j hj
      obtain ⟨n, hn⟩ : ∃ n, l[j] = n := ⟨_, rfl⟩
      rw [hn] at ho HN
      have hnz : n.name.size ≤ 1048576 := by rw [← hn]; exact HZ.out _ (List.getElem_mem hj)
      have hj0 : (0 : Int) ≤ (j : Int) := by omega
      have hj1 : (j : Int) < (l.length : Int) := by omega
      have HO := hide ho
      clear ea en ho hn hk hw htp hms
      have hS : ∀ W, Box1 w W w.heap.size (.slice (some ⟨b, off, none⟩) l.length cap) 30 → W.cell? ⟨w.heap.size, 0, none⟩ = some (.slice (some ⟨b, off, none⟩) l.length cap) ∧ W.cell? ⟨b, off + j * 4, none⟩ = some (.int .i64 n.id) ∧ W.cell? ⟨b, off + j * 4 + 1, none⟩ = some (.int .i64 n.parent) ∧ W.cell? ⟨b, off + j * 4 + 2, none⟩ = some (.string n.name) ∧ W.cell? ⟨b, off + j * 4 + 3, none⟩ = some (.slice n.pao n.props.length n.pcap) := fun W hW => ⟨hW.cell, HO.out.block (hW.below.block b hlt)⟩
      have HSx := hide hS
      have hd0 := hS _ HB.out.drew
      have HBs : Hid (w.heap.size ≤ wr.heap.size ∧ wr.heap.size ≠ w.heap.size) := ⟨HB.out.below.size, by have := (Array.getElem?_eq_some_iff.1 HB.out.lies).1; omega⟩
      have HBa := hide (HB.out.also (.cells #[.int .i64 0, .int .i64 0, .string ⟨#[]⟩, .slice none 0 0] 50)).drew
      have HA4 : Hid ((wr.alloc (.cells #[.int .i64 0, .int .i64 0, .string ⟨#[]⟩, .slice none 0 0] 50)).drew.heap[wr.heap.size]? = _) := ⟨heap_alloc_new wr _⟩
      have hd1 := hS _ HBa.out
      clear hS hc
      go_wp2_with fail
      go_region_held3 (fun W => W.cell? ⟨w.heap.size, 0, none⟩ = some (.slice (some ⟨b, off, none⟩) l.length cap) ∧ W.cell? ⟨b, off + j * 4, none⟩ = some (.int .i64 n.id) ∧ W.cell? ⟨b, off + j * 4 + 1, none⟩ = some (.int .i64 n.parent) ∧ W.cell? ⟨b, off + j * 4 + 2, none⟩ = some (.string n.name) ∧ W.cell? ⟨b, off + j * 4 + 3, none⟩ = some (.slice n.pao n.props.length n.pcap)) (first | with_reducible exact hd0 | with_reducible exact hd1 | with_reducible exact hd2 | with_reducible exact hd3 _ | with_reducible exact hd4) (first | (go_at_call 31; refine (HT.out v _ HB.out.drew.below).mono ?_; rintro e w1 ⟨rfl, hb1⟩; rw [HEA.out]; have hB1 := HB.out.drew.step hb1; have hd2 := HSx.out _ hB1; have hd3 := fun (ob : Obj) => HSx.out _ (hB1.also ob); have hd4 := HSx.out _ ((hB1.also (.cells #[.int .i64 0, .int .i64 0, .string ⟨#[]⟩, .slice none 0 0] 50)).put (k := w1.heap.size) (by have := hB1.below.size; omega) (by have := (Array.getElem?_eq_some_iff.1 hB1.lies).1; omega) 0 [.int .i64 n.id, .int .i64 n.parent, .string n.name, .slice n.pao n.props.length n.pcap]); simp only [putsG, Nat.zero_add, Nat.reduceAdd] at hd4) | (go_at_call 31; refine (HT.out v _ HBa.out.below).mono ?_; rintro e w1 ⟨rfl, hb1⟩; rw [HEA.out]; have hB1 := HBa.out.step hb1; have hd2 := HSx.out _ hB1; obtain ⟨k0, k1, k2, k3, f0, f1, f2, f3⟩ := cells4 ((hb1.block wr.heap.size (by simp)).trans HA4.out); have hd4 := HSx.out _ (hB1.put (k := wr.heap.size) HBs.out.1 HBs.out.2 0 [.int .i64 n.id, .int .i64 n.parent, .string n.name, .slice n.pao n.props.length n.pcap]); simp only [putsG, Nat.zero_add, Nat.reduceAdd] at hd4; have hd3 := fun (ob : Obj) => HSx.out _ (hB1.also ob)))
      all_goals (
        have hq1 : ¬ 9223372036854775807 < 1 + n.name.size := by omega
        have hq2 : ¬ 9223372036854775807 < 1 + n.name.size + (pathA d).size := by omega
        go_wp2
        go_roundw)
      case rel =>
        refine ⟨n.parent, d ++ [n.name], rfl, by rw [pathA_snoc], ends_mono (Nat.le_succ _) HN.out.1, by rw [HW.out, HN.out.2.1, List.append_assoc]; rfl, by rw [HTp.out, HN.out.2.2.1], ?_, ?_, hB1.also _⟩
        · have h1 := HN.out.2.2.2; have h2 := HST.out; simp; omega
        · have h1 := HSZ.out; rw [pathA_size]; simp; omega
      case measure => exact HN.out.2.2.2
      case rel =>
        refine ⟨n.parent, d ++ [n.name], rfl, by rw [pathA_snoc], ends_mono (Nat.le_succ _) HN.out.1, by rw [HW.out, HN.out.2.1, List.append_assoc]; rfl, by rw [HTp.out, HN.out.2.2.1], ?_, ?_, hB1.put (k := wr.heap.size) HBs.out.1 HBs.out.2 0 [.int .i64 n.id, .int .i64 n.parent, .string n.name, .slice n.pao n.props.length n.pcap]⟩
        · have h1 := HN.out.2.2.2; have h2 := HST.out; simp; omega
        · have h1 := HSZ.out; rw [pathA_size]; simp; omega
      case measure => exact HN.out.2.2.2

set_option maxRecDepth 100000 in
set_option maxHeartbeats 1000000 in
theorem sPath_any (l : List NodG) (ao : Option Addr) (cap : Nat) (x : Int) (w : World) (hl : l.length ≤ 1048576) (hA : NodesAt w ao l) (hS : ∀ n ∈ l, Sized1 1048576 n) :
    Calls Try.prog 16 #[.agg #[.slice ao l.length cap], .int .i64 x] w fun e w' => e = .returned (.string (pathB l x)) ∧ Below w.heap.size w w' := by
  have hat := fun W (hW : Below w.heap.size w W) => sAt_any l ao cap x W (by unfold maxLen; omega) (hA.stays hW)
  have htr := fun W (hW : Below w.heap.size w W) => sTree_any l ao cap W hl (hA.stays hW) hS
  have HT := hide hat
  have H1 := hide (Box1.start w (.slice ao l.length cap) 30)
  have HA := hide hA
  have HSz := hide hS
  clear hA hat hS
  cases ht : treeRight l
  · have HF : Hid (pathB l x = ⟨#[]⟩) := ⟨pathB_no (fun e => by rw [ht] at e; exact absurd e.1 (by decide))⟩
    simp only [ht] at htr
    go_enter Try.func16, Try.ntmps16
    go_wp2_with (first | (go_at_call 23; refine (htr _ H1.out.below).mono ?_; rintro e w1 ⟨rfl, hb1⟩))
    go_ret
    exact ⟨by rw [HF.out]; rfl, (H1.out.step hb1).below⟩
  · have HTR := hide ((treeR_iff l).1 ht)
    simp only [ht] at htr
    rcases at_cases l x with ⟨ea, en⟩ | ⟨j, hj, ea, en, _⟩
    · have HF : Hid (pathB l x = ⟨#[]⟩) := ⟨pathB_no (fun e => by rw [en] at e; exact absurd e.2 (by decide))⟩
      have HEA := hide ea
      clear ea en ht
      go_enter Try.func16, Try.ntmps16
      go_wp2_with (first | (go_at_call 23; refine (htr _ H1.out.below).mono ?_; rintro e w1 ⟨rfl, hb1⟩; have hbx := H1.out.step hb1; have H2 := hide hbx; have hc := hbx.cell; clear hbx hb1) | (go_at_call 31; refine (HT.out _ H2.out.below).mono ?_; rintro e w2 ⟨rfl, hb2⟩; rw [HEA.out]))
      go_ret
      exact ⟨by rw [HF.out]; rfl, (H2.out.step hb2).below⟩
    · have HEA := hide ea
      have hj0 : (0 : Int) ≤ (j : Int) := by omega
      have hj2 : decide ((j : Int) < 0) = false := by simp
      have HEN := hide (tree_ends HTR.out en)
      have hup := fun W (hW : Below w.heap.size w W) => sPathIn_any l ao cap x W hl (HA.out.stays hW) HSz.out HTR.out HEN.out
      simp only [← pathB_yes ht en] at hup
      have HUP := hide hup
      clear ea en ht hup
      go_enter Try.func16, Try.ntmps16
      go_wp2_with (first | (go_at_call 23; refine (htr _ H1.out.below).mono ?_; rintro e w1 ⟨rfl, hb1⟩; have hbx := H1.out.step hb1; have H2 := hide hbx; have hc := hbx.cell; clear hbx hb1) | (go_at_call 31; refine (HT.out _ H2.out.below).mono ?_; rintro e w2 ⟨rfl, hb2⟩; rw [HEA.out]; have hbx := H2.out.step hb2; have H3 := hide hbx; have hc2 := hbx.cell; clear hbx hb2 hc) | (go_at_call 32; refine (HUP.out _ H3.out.below).mono ?_; rintro e w4 ⟨rfl, hb4⟩))
      go_ret
      exact ⟨rfl, (H3.out.step hb4).below⟩
end Go.Proofs.Ytcpgkalafkhlgaf.OpR
