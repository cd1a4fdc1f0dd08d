/- What is found by names: a node of the tree. Plain mathematics. Proves what spec.l04Find tells: where names lead. Proves what spec.Find tells. -/
import Derived.Test.YtmidembbanlleafDoorDfsM
import Derived.Test.YtmidembbanlleafDoorFgB
import Derived.Test.YtmidembbanlleafDoorFgA
namespace Go.Proofs.YtmidembbanlleafDoor.OpR
set_option linter.unusedVariables false

def resI : Option NodG → Int
  | some n => n.id
  | none => -1
theorem findL_mem {P : NodG → Prop} {f : NodG → Option NodG} : ∀ {K : List NodG}, (∀ c ∈ K, ∀ n, f c = some n → P n) → ∀ n, findL f K = some n → P n
  | [], _, n, h => by simp [findL] at h
  | c :: r, hf, n, h => by
    rw [findL_cons] at h
    cases e : f c with
    | some m =>
      rw [e] at h
      cases h
      exact hf c (by simp) n e
    | none =>
      rw [e] at h
      have h2 : findL f r = some n := by simpa using h
      exact findL_mem (K := r) (fun c hc => hf c (List.mem_cons_of_mem _ hc)) n h2
theorem findS_mem {l : List NodG} : ∀ {ns : List ByteArray} {y : Int} {n : NodG}, findS l ns y = some n → n ∈ l
  | [], y, n, h => by simp [findS] at h
  | s :: r, y, n, h => by
    rw [findS] at h
    refine findL_mem (P := fun n => n ∈ l) (fun c hc m hm => ?_) n h
    split at hm
    · split at hm
      · cases hm
        exact (kids_mem.1 hc).1
      · exact findS_mem hm
    · cases hm
/-- One step of spec's search. -/
theorem find_hit {f : NodG → Option NodG} {K : List NodG} {k : Nat} (hk : k < K.length) {n : NodG} (h : f K[k] = some n) : findL f (K.drop k) = some n := by
  rw [List.drop_eq_getElem_cons hk, findL_cons, h]; rfl
theorem find_miss {f : NodG → Option NodG} {K : List NodG} {k : Nat} (hk : k < K.length) (h : f K[k] = none) : findL f (K.drop k) = findL f (K.drop (k + 1)) := by
  rw [List.drop_eq_getElem_cons hk, findL_cons, h]; rfl
end Go.Proofs.YtmidembbanlleafDoor.OpR
namespace Go.Proofs.YtmidembbanlleafDoor.OpR
open Go.ChangeShapes Go.WideShapes Go.ChangeAt Go.RowKit
set_option linter.unusedVariables false

/-- Texts that lie in a block from a place on. -/
def NamesAt (w : World) (g o : Nat) (ns : List ByteArray) : Prop := g < w.heap.size ∧ ∀ j (hj : j < ns.length), w.cell? ⟨g, o + j, none⟩ = some (.string ns[j])
theorem NamesAt.stays {w w' : World} {g o : Nat} {ns : List ByteArray} (h : NamesAt w g o ns) (hb : Below w.heap.size w w') : NamesAt w' g o ns :=
  ⟨Nat.lt_of_lt_of_le h.1 hb.size, fun j hj => by simpa only [World.cell?, hb.block g h.1] using h.2 j hj⟩
theorem NamesAt.tail {w : World} {g o : Nat} {s : ByteArray} {r : List ByteArray} (h : NamesAt w g o (s :: r)) : NamesAt w g (o + 1) r :=
  ⟨h.1, fun j hj => by have := h.2 (j + 1) (by simpa using hj); rw [show o + 1 + j = o + (j + 1) by omega]; simpa using this⟩
theorem slice_1T (W : World) (g o len cap : Nat) (h : 1 < len) (hc : len ≤ cap) :
    (Instr.slice 36 (.slice (some ⟨g, o, none⟩) len cap) (some (.int .i64 1)) none none).run Tryd.prog W = .ok (.slice (some ⟨g, o + 1, none⟩) (len - 1) (cap - 1)) W := by
  have ht : Tryd.prog.underlying 36 = some (.slice (Tryd.prog.elem 36)) := by kernel_rfl
  have hs : ∀ w, (sizeOf (Tryd.prog.elem 36)).run Tryd.prog w = .ok 1 w := fun _ => by kernel_rfl
  have h1 := run_slice_l (P := Tryd.prog) W 36 (some ⟨g, o, none⟩) len cap ht .i64 ((1 : Nat) : Int) (by omega) (by omega)
  rw [hs] at h1
  have : ¬ cap = 1 := by omega
  simpa [Result.andThen, sliced, Addr.add, this] using h1
theorem id_low {l : List NodG} (ht : TreeR l) {n : NodG} (h : n ∈ l) : 0 ≤ n.id := by
  have h1 := ht.2.2 n h
  unfold nodOk at h1
  rw [Bool.and_eq_true] at h1
  have h2 := h1.1
  simp [isIn] at h2
  omega
theorem res_some {l : List NodG} (ht : TreeR l) {ns : List ByteArray} {y : Int} {n : NodG} (h : findS l ns y = some n) : 0 ≤ n.id := id_low ht (findS_mem h)
set_option maxRecDepth 100000 in
set_option maxHeartbeats 2000000 in
theorem sFind_any (l : List NodG) (ao : Option Addr) (cap : Nat) (ht : TreeR l) : ∀ (ns : List ByteArray) (s : ByteArray) (y : Int) (g o nc : Nat) (w : World), (s :: ns).length ≤ nc → (s :: ns).length ≤ 1048577 → NodesAt w ao l → NamesAt w g o (s :: ns) →
    Calls Tryd.prog 11 #[.agg #[.slice ao l.length cap], .int .i64 y, .slice (some ⟨g, o, none⟩) (s :: ns).length nc] w fun e w' => e = .returned (.int .i64 (resI (findS l (s :: ns) y))) ∧ Below w.heap.size w w' := by
  intro ns
  induction ns with
  | nil =>
    intro s y g o nc w hnc hnl hA hN
    have hl : l.length ≤ 150 := ht.1
    have HT := hide (fun x W (hW : Below w.heap.size w W) => sAt_any l ao cap x W (by unfold maxLen; omega) (hA.stays hW))
    have HK := hide (fun W (hW : Below w.heap.size w W) => sKids_any l ao cap y W (hA.stays hW) ht)
    have HA := hide hA
    have HR := hide ht
    have HN := hide hN
    have HNc := hide hnc
    have H1 := hide (Box1.start w (.slice ao l.length cap) 29)
    have HF : Hid (findS l (s :: []) y = findL (fun c => if c.name.toList = s.toList then (if ([] : List ByteArray).isEmpty = true then some c else findS l [] c.id) else none) (kids l y)) := ⟨by rw [findS]⟩
    simp only [List.length_cons, List.length_nil, Nat.zero_add] at hnc hnl ⊢
    obtain ⟨R, hRR⟩ : ∃ R, findS l (s :: []) y = R := ⟨_, rfl⟩
    have HRR := hide hRR
    rw [hRR]
    have hkl : (kids l y).length ≤ 150 := Nat.le_trans (kids_len l y) hl
    have HKm : Hid (∀ m ∈ kids l y, m ∈ l) := ⟨fun m hm => (kids_mem.1 hm).1⟩
    obtain ⟨K, hK⟩ : ∃ K, kids l y = K := ⟨_, rfl⟩
    rw [hK] at HK HF hkl HKm
    clear hA hN hRR hK hnc
    go_enter Tryd.func11, Tryd.ntmps11
    go_wp2_with (first | (go_at_call 25; refine (HK.out _ H1.out.below).mono ?_; rintro e w1 ⟨v1, rfl, hI, hb1⟩; obtain ⟨a1, c1, rfl, _, hIA⟩ := hI.at; have HI := hide hIA; have HB1 := hide (H1.out.step hb1); clear hI hIA hb1))
    go_loopw [8] (fun i wr => ∃ k : Nat, k ≤ K.length ∧ i = .int .i64 k ∧ Hid (findL (fun c => if c.name.toList = s.toList then (if ([] : List ByteArray).isEmpty = true then some c else findS l [] c.id) else none) (K.drop k) = R) ∧ Below w1.heap.size w1 wr) (fun i _ => K.length - (intOf i).toNat)
    case atStart => exact ⟨0, by omega, rfl, ⟨by rw [List.drop_zero, ← HRR.out, HF.out]⟩, Below.refl _ _⟩
    case round =>
      obtain ⟨k, hk, rfl, HS, hb⟩ := hrel
      have HX := hide (HB1.out.step hb)
      have HB := hide hb
      clear hb
      by_cases h : k < K.length
      · obtain ⟨b1, off1, rfl, hlt1, hc1⟩ := HI.out k (by simpa using h)
        obtain ⟨m, hm⟩ : ∃ m, K[k] = m := ⟨_, rfl⟩
        have hml : m ∈ l := by rw [← hm]; exact HKm.out _ (List.getElem_mem h)
        obtain ⟨j, hj, ea, hjm⟩ : ∃ (j : Nat) (hj : j < l.length), atI l m.id = j ∧ l[j] = m := by
          have h1 := nodOf_mem HR.out.2.1 hml
          rcases at_cases l m.id with ⟨_, en⟩ | ⟨j, hj, ea, en, _⟩
          · rw [en] at h1; cases h1
          · rw [en] at h1
            exact ⟨j, hj, ea, Option.some.inj h1⟩
        obtain ⟨b, off, rfl, hlt, _, _⟩ := HA.out j hj
        have HEA := hide ea
        have hi0 : (0 : Int) ≤ (k : Int) := by omega
        have hi1 : (k : Int) < (K.length : Int) := by omega
        have hj0 : (0 : Int) ≤ (j : Int) := by omega
        have hj1 : (j : Int) < (l.length : Int) := by omega
        have hS : ∀ W, Box1 w W w.heap.size (.slice (some ⟨b, off, none⟩) l.length cap) 29 → Below w1.heap.size w1 W → W.cell? ⟨w.heap.size, 0, none⟩ = some (.slice (some ⟨b, off, none⟩) l.length cap) ∧ W.cell? ⟨b1, off1 + k, none⟩ = some (.int .i64 m.id) ∧ W.cell? ⟨b, off + j * 4 + 2, none⟩ = some (.string m.name) ∧ W.cell? ⟨g, o, none⟩ = some (.string s) := fun W hW hbW => by
          obtain ⟨b', off', e', hlt', ho', _⟩ := HA.out j hj
          cases e'
          obtain ⟨_, _, d2, _⟩ := ho'.block (w' := W) (hW.below.block b hlt')
          rw [hjm] at d2
          refine ⟨hW.cell, ?_, d2, ?_⟩
          · have h3 : w1.cell? ⟨b1, off1 + k, none⟩ = some (.int .i64 m.id) := by simpa [hm] using hc1
            simpa only [World.cell?, hbW.block b1 hlt1] using h3
          · have := (HN.out.stays hW.below).2 0 (by simp)
            simpa using this
        have HSx := hide hS
        have hd0 := hS _ HX.out.drew HB.out.drew
        have HMq := hide hm
        clear hS hm ea hjm hc1
        by_cases he : m.name.toList = s.toList
        · have hq1 : (m.name.toList == s.toList) = true := beq_iff_eq.2 he
          have hq2 : (m.name.toList != s.toList) = false := by rw [bne, hq1]; rfl
          have HE : Hid (R = some m) := ⟨by rw [← HS.out, find_hit h (n := m) (by rw [HMq.out, if_pos he]; rfl)]⟩
          clear he
          go_wp2_with fail
          go_region_held3 (fun W => W.cell? ⟨w.heap.size, 0, none⟩ = some (.slice (some ⟨b, off, none⟩) l.length cap) ∧ W.cell? ⟨b1, off1 + k, none⟩ = some (.int .i64 m.id) ∧ W.cell? ⟨b, off + j * 4 + 2, none⟩ = some (.string m.name) ∧ W.cell? ⟨g, o, none⟩ = some (.string s)) (first | with_reducible exact hd0 | with_reducible exact hd1) (first | (go_at_call 26; refine (HT.out m.id _ HX.out.drew.below).mono ?_; rintro e w5 ⟨rfl, hb5⟩; rw [HEA.out]; have HX5 := hide (HX.out.drew.step hb5); have HB5 := hide (HB.out.drew.trans (hb5.mono HB.out.size)); have hd1 := HSx.out _ HX5.out HB5.out; clear hb5))
          clear hd0
          have hc5 := hd1.2.1
          clear hd1
          go_wp2
          go_ret
          exact ⟨by rw [HE.out]; rfl, HX5.out.below⟩
        · have hq1 : (m.name.toList == s.toList) = false := beq_eq_false_iff_ne.2 he
          have hq2 : (m.name.toList != s.toList) = true := by rw [bne, hq1]; rfl
          have HS2 : Hid (findL (fun c => if c.name.toList = s.toList then (if ([] : List ByteArray).isEmpty = true then some c else findS l [] c.id) else none) (K.drop (k + 1)) = R) := ⟨by rw [← HS.out, find_miss h (by rw [HMq.out, if_neg he])]⟩
          clear he
          go_wp2_with fail
          go_region_held3 (fun W => W.cell? ⟨w.heap.size, 0, none⟩ = some (.slice (some ⟨b, off, none⟩) l.length cap) ∧ W.cell? ⟨b1, off1 + k, none⟩ = some (.int .i64 m.id) ∧ W.cell? ⟨b, off + j * 4 + 2, none⟩ = some (.string m.name) ∧ W.cell? ⟨g, o, none⟩ = some (.string s)) (first | with_reducible exact hd0 | with_reducible exact hd1) (first | (go_at_call 26; refine (HT.out m.id _ HX.out.drew.below).mono ?_; rintro e w5 ⟨rfl, hb5⟩; rw [HEA.out]; have HX5 := hide (HX.out.drew.step hb5); have HB5 := hide (HB.out.drew.trans (hb5.mono HB.out.size)); have hd1 := HSx.out _ HX5.out HB5.out; clear hb5))
          clear hd0 hd1
          go_wp2
          go_roundw
          case rel => exact ⟨k + 1, by omega, by go_num, HS2, HB5.out⟩
          case measure => simp [intOf]; omega
      · have HE : Hid (R = none) := ⟨by rw [← HS.out, List.drop_of_length_le (by omega)]; rfl⟩
        go_wp2
        go_ret
        exact ⟨by rw [HE.out]; rfl, HX.out.below⟩
  | cons s2 r ih =>
    intro s y g o nc w hnc hnl hA hN
    have hl : l.length ≤ 150 := ht.1
    have HT := hide (fun x W (hW : Below w.heap.size w W) => sAt_any l ao cap x W (by unfold maxLen; omega) (hA.stays hW))
    have HK := hide (fun W (hW : Below w.heap.size w W) => sKids_any l ao cap y W (hA.stays hW) ht)
    have HA := hide hA
    have HR := hide ht
    have HN := hide hN
    have HNc := hide hnc
    have H1 := hide (Box1.start w (.slice ao l.length cap) 29)
    have HF : Hid (findS l (s :: (s2 :: r)) y = findL (fun c => if c.name.toList = s.toList then (if ((s2 :: r) : List ByteArray).isEmpty = true then some c else findS l (s2 :: r) c.id) else none) (kids l y)) := ⟨by rw [findS]⟩
    simp only [List.length_cons] at hnc hnl ⊢
    obtain ⟨R, hRR⟩ : ∃ R, findS l (s :: (s2 :: r)) y = R := ⟨_, rfl⟩
    have HRR := hide hRR
    rw [hRR]
    have hkl : (kids l y).length ≤ 150 := Nat.le_trans (kids_len l y) hl
    have HKm : Hid (∀ m ∈ kids l y, m ∈ l) := ⟨fun m hm => (kids_mem.1 hm).1⟩
    obtain ⟨K, hK⟩ : ∃ K, kids l y = K := ⟨_, rfl⟩
    rw [hK] at HK HF hkl HKm
    clear hA hN hRR hK hnc
    have hz1 : (0 : Int) < (r.length : Int) + 1 + 1 := by omega
    have hz2 : (0 : Int) < ((r.length + 1 + 1 : Nat) : Int) := by omega
    have hz3 : ((r.length : Int) + 1 + 1 == 1) = false := by rw [beq_eq_false_iff_ne]; omega
    go_enter Tryd.func11, Tryd.ntmps11
    go_wp2_with (first | (go_at_call 25; refine (HK.out _ H1.out.below).mono ?_; rintro e w1 ⟨v1, rfl, hI, hb1⟩; obtain ⟨a1, c1, rfl, _, hIA⟩ := hI.at; have HI := hide hIA; have HB1 := hide (H1.out.step hb1); clear hI hIA hb1))
    go_loopw [8] (fun i wr => ∃ k : Nat, k ≤ K.length ∧ i = .int .i64 k ∧ Hid (findL (fun c => if c.name.toList = s.toList then (if ((s2 :: r) : List ByteArray).isEmpty = true then some c else findS l (s2 :: r) c.id) else none) (K.drop k) = R) ∧ Below w1.heap.size w1 wr) (fun i _ => K.length - (intOf i).toNat)
    case atStart => exact ⟨0, by omega, rfl, ⟨by rw [List.drop_zero, ← HRR.out, HF.out]⟩, Below.refl _ _⟩
    case round =>
      obtain ⟨k, hk, rfl, HS, hb⟩ := hrel
      have HX := hide (HB1.out.step hb)
      have HB := hide hb
      clear hb
      by_cases h : k < K.length
      · obtain ⟨b1, off1, rfl, hlt1, hc1⟩ := HI.out k (by simpa using h)
        obtain ⟨m, hm⟩ : ∃ m, K[k] = m := ⟨_, rfl⟩
        have hml : m ∈ l := by rw [← hm]; exact HKm.out _ (List.getElem_mem h)
        obtain ⟨j, hj, ea, hjm⟩ : ∃ (j : Nat) (hj : j < l.length), atI l m.id = j ∧ l[j] = m := by
          have h1 := nodOf_mem HR.out.2.1 hml
          rcases at_cases l m.id with ⟨_, en⟩ | ⟨j, hj, ea, en, _⟩
          · rw [en] at h1; cases h1
          · rw [en] at h1
            exact ⟨j, hj, ea, Option.some.inj h1⟩
        obtain ⟨b, off, rfl, hlt, _, _⟩ := HA.out j hj
        have HEA := hide ea
        have hi0 : (0 : Int) ≤ (k : Int) := by omega
        have hi1 : (k : Int) < (K.length : Int) := by omega
        have hj0 : (0 : Int) ≤ (j : Int) := by omega
        have hj1 : (j : Int) < (l.length : Int) := by omega
        have hS : ∀ W, Box1 w W w.heap.size (.slice (some ⟨b, off, none⟩) l.length cap) 29 → Below w1.heap.size w1 W → W.cell? ⟨w.heap.size, 0, none⟩ = some (.slice (some ⟨b, off, none⟩) l.length cap) ∧ W.cell? ⟨b1, off1 + k, none⟩ = some (.int .i64 m.id) ∧ W.cell? ⟨b, off + j * 4 + 2, none⟩ = some (.string m.name) ∧ W.cell? ⟨g, o, none⟩ = some (.string s) := fun W hW hbW => by
          obtain ⟨b', off', e', hlt', ho', _⟩ := HA.out j hj
          cases e'
          obtain ⟨_, _, d2, _⟩ := ho'.block (w' := W) (hW.below.block b hlt')
          rw [hjm] at d2
          refine ⟨hW.cell, ?_, d2, ?_⟩
          · have h3 : w1.cell? ⟨b1, off1 + k, none⟩ = some (.int .i64 m.id) := by simpa [hm] using hc1
            simpa only [World.cell?, hbW.block b1 hlt1] using h3
          · have := (HN.out.stays hW.below).2 0 (by simp)
            simpa using this
        have HSx := hide hS
        have hd0 := hS _ HX.out.drew HB.out.drew
        have HMq := hide hm
        clear hS hm ea hjm hc1
        by_cases he : m.name.toList = s.toList
        · have hq1 : (m.name.toList == s.toList) = true := beq_iff_eq.2 he
          have hq2 : (m.name.toList != s.toList) = false := by rw [bne, hq1]; rfl
          have hsl := fun W => slice_1T W g o (r.length + 1 + 1) nc (by omega) (by have := HNc.out; simpa using this)
          have HIH := hide (fun W (hW : Below w.heap.size w W) => ih s2 m.id g (o + 1) (nc - 1) W (by have := HNc.out; simp only [List.length_cons] at *; omega) (by simp only [List.length_cons]; omega) (HA.out.stays hW) (HN.out.tail.stays hW))
          obtain ⟨Q, hQ⟩ : ∃ Q, findS l (s2 :: r) m.id = Q := ⟨_, rfl⟩
          simp only [List.length_cons, hQ] at HIH
          have HQl : Hid (∀ n, Q = some n → 0 ≤ n.id) := ⟨fun n hn => res_some HR.out (hQ.trans hn)⟩
          have HQ := hide hQ
          clear hQ
          cases hQc : Q with
          | some n =>
            have HE : Hid (R = some n) := ⟨by rw [← HS.out, find_hit h (n := n) (by rw [HMq.out, if_pos he]; simpa [hQc] using HQ.out)]⟩
            have hn0 := HQl.out n hQc
            rw [hQc] at HIH
            simp only [resI] at HIH
            clear he hQc
            go_wp2_with fail
            go_region_held3 (fun W => W.cell? ⟨w.heap.size, 0, none⟩ = some (.slice (some ⟨b, off, none⟩) l.length cap) ∧ W.cell? ⟨b1, off1 + k, none⟩ = some (.int .i64 m.id) ∧ W.cell? ⟨b, off + j * 4 + 2, none⟩ = some (.string m.name) ∧ W.cell? ⟨g, o, none⟩ = some (.string s)) (first | with_reducible exact hd0 | with_reducible exact hd1) (first | (go_at_call 26; refine (HT.out m.id _ HX.out.drew.below).mono ?_; rintro e w5 ⟨rfl, hb5⟩; rw [HEA.out]; have HX5 := hide (HX.out.drew.step hb5); have HB5 := hide (HB.out.drew.trans (hb5.mono HB.out.size)); have hd1 := HSx.out _ HX5.out HB5.out; clear hb5))
            have hf0 := HSx.out _ HX5.out.drew HB5.out.drew
            clear hd0 hd1
            go_wp2_with fail
            go_region_held3 (fun W => W.cell? ⟨w.heap.size, 0, none⟩ = some (.slice (some ⟨b, off, none⟩) l.length cap) ∧ W.cell? ⟨b1, off1 + k, none⟩ = some (.int .i64 m.id) ∧ W.cell? ⟨b, off + j * 4 + 2, none⟩ = some (.string m.name) ∧ W.cell? ⟨g, o, none⟩ = some (.string s)) (first | with_reducible exact hf0 | with_reducible exact hf1) (first | (go_at_call 11; refine (HIH.out _ HX5.out.drew.below).mono ?_; rintro e w6 ⟨rfl, hb6⟩; have HX6 := hide (HX5.out.drew.step hb6); have HB6 := hide (HB5.out.drew.trans (hb6.mono HB5.out.size)); have hf1 := HSx.out _ HX6.out HB6.out; clear hb6))
            clear hf0 hf1
            go_wp2
            go_ret
            exact ⟨by rw [HE.out]; rfl, HX6.out.below⟩
          | none =>
            have HS2 : Hid (findL (fun c => if c.name.toList = s.toList then (if ((s2 :: r) : List ByteArray).isEmpty = true then some c else findS l (s2 :: r) c.id) else none) (K.drop (k + 1)) = R) := ⟨by rw [← HS.out, find_miss h (by rw [HMq.out, if_pos he]; simpa [hQc] using HQ.out)]⟩
            rw [hQc] at HIH
            simp only [resI] at HIH
            clear he hQc
            go_wp2_with fail
            go_region_held3 (fun W => W.cell? ⟨w.heap.size, 0, none⟩ = some (.slice (some ⟨b, off, none⟩) l.length cap) ∧ W.cell? ⟨b1, off1 + k, none⟩ = some (.int .i64 m.id) ∧ W.cell? ⟨b, off + j * 4 + 2, none⟩ = some (.string m.name) ∧ W.cell? ⟨g, o, none⟩ = some (.string s)) (first | with_reducible exact hd0 | with_reducible exact hd1) (first | (go_at_call 26; refine (HT.out m.id _ HX.out.drew.below).mono ?_; rintro e w5 ⟨rfl, hb5⟩; rw [HEA.out]; have HX5 := hide (HX.out.drew.step hb5); have HB5 := hide (HB.out.drew.trans (hb5.mono HB.out.size)); have hd1 := HSx.out _ HX5.out HB5.out; clear hb5))
            have hf0 := HSx.out _ HX5.out.drew HB5.out.drew
            clear hd0 hd1
            go_wp2_with fail
            go_region_held3 (fun W => W.cell? ⟨w.heap.size, 0, none⟩ = some (.slice (some ⟨b, off, none⟩) l.length cap) ∧ W.cell? ⟨b1, off1 + k, none⟩ = some (.int .i64 m.id) ∧ W.cell? ⟨b, off + j * 4 + 2, none⟩ = some (.string m.name) ∧ W.cell? ⟨g, o, none⟩ = some (.string s)) (first | with_reducible exact hf0 | with_reducible exact hf1) (first | (go_at_call 11; refine (HIH.out _ HX5.out.drew.below).mono ?_; rintro e w6 ⟨rfl, hb6⟩; have HX6 := hide (HX5.out.drew.step hb6); have HB6 := hide (HB5.out.drew.trans (hb6.mono HB5.out.size)); have hf1 := HSx.out _ HX6.out HB6.out; clear hb6))
            clear hf0 hf1
            go_wp2
            go_roundw
            case rel => exact ⟨k + 1, by omega, by go_num, HS2, HB6.out⟩
            case measure => simp [intOf]; omega
        · have hq1 : (m.name.toList == s.toList) = false := beq_eq_false_iff_ne.2 he
          have hq2 : (m.name.toList != s.toList) = true := by rw [bne, hq1]; rfl
          have HS2 : Hid (findL (fun c => if c.name.toList = s.toList then (if ((s2 :: r) : List ByteArray).isEmpty = true then some c else findS l (s2 :: r) c.id) else none) (K.drop (k + 1)) = R) := ⟨by rw [← HS.out, find_miss h (by rw [HMq.out, if_neg he])]⟩
          clear he
          go_wp2_with fail
          go_region_held3 (fun W => W.cell? ⟨w.heap.size, 0, none⟩ = some (.slice (some ⟨b, off, none⟩) l.length cap) ∧ W.cell? ⟨b1, off1 + k, none⟩ = some (.int .i64 m.id) ∧ W.cell? ⟨b, off + j * 4 + 2, none⟩ = some (.string m.name) ∧ W.cell? ⟨g, o, none⟩ = some (.string s)) (first | with_reducible exact hd0 | with_reducible exact hd1) (first | (go_at_call 26; refine (HT.out m.id _ HX.out.drew.below).mono ?_; rintro e w5 ⟨rfl, hb5⟩; rw [HEA.out]; have HX5 := hide (HX.out.drew.step hb5); have HB5 := hide (HB.out.drew.trans (hb5.mono HB.out.size)); have hd1 := HSx.out _ HX5.out HB5.out; clear hb5))
          clear hd0 hd1
          go_wp2
          go_roundw
          case rel => exact ⟨k + 1, by omega, by go_num, HS2, HB5.out⟩
          case measure => simp [intOf]; omega
      · have HE : Hid (R = none) := ⟨by rw [← HS.out, List.drop_of_length_le (by omega)]; rfl⟩
        go_wp2
        go_ret
        exact ⟨by rw [HE.out]; rfl, HX.out.below⟩
end Go.Proofs.YtmidembbanlleafDoor.OpR
namespace Go.Proofs.YtmidembbanlleafDoor.OpR
open Go.ChangeShapes Go.WideShapes Go.ChangeAt Go.RowKit
set_option linter.unusedVariables false

/-- Where a path leads, behind the sign of the trash. -/
def findFrom (l : List NodG) (y : Int) (q : ByteArray) : Int := if opens 47 q = true then resI (findS l (namesL (q.extract 1 q.size).data.toList) y) else -1
/-- What Find answers. -/
def findRes (l : List NodG) (p : ByteArray) : Int :=
  if p.size ≤ 8000 ∧ treeRight l = true then (if opens 126 p = true then findFrom l 1 (p.extract 1 p.size) else findFrom l 0 p) else 0
theorem findRes_long {l : List NodG} {p : ByteArray} (h : ¬ p.size ≤ 8000) : findRes l p = 0 := by unfold findRes; rw [if_neg (fun x => h x.1)]
theorem findRes_not {l : List NodG} {p : ByteArray} (h : treeRight l = false) : findRes l p = 0 := by unfold findRes; rw [if_neg (fun x => by rw [h] at x; exact absurd x.2 (by decide))]
theorem findRes_trash {l : List NodG} {p : ByteArray} (h : p.size ≤ 8000) (ht : treeRight l = true) (ho : opens 126 p = true) : findRes l p = findFrom l 1 (p.extract 1 p.size) := by unfold findRes; rw [if_pos ⟨h, ht⟩, if_pos ho]
theorem findRes_root {l : List NodG} {p : ByteArray} (h : p.size ≤ 8000) (ht : treeRight l = true) (ho : opens 126 p = false) : findRes l p = findFrom l 0 p := by unfold findRes; rw [if_pos ⟨h, ht⟩, if_neg (by rw [ho]; decide)]
theorem findFrom_yes {l : List NodG} {y : Int} {q : ByteArray} (h : opens 47 q = true) : findFrom l y q = resI (findS l (namesL (q.extract 1 q.size).data.toList) y) := by unfold findFrom; rw [if_pos h]
theorem findFrom_no {l : List NodG} {y : Int} {q : ByteArray} (h : opens 47 q = false) : findFrom l y q = -1 := by unfold findFrom; rw [if_neg (by rw [h]; decide)]
theorem byte_yes {c d : UInt8} (h : c = d) : (((c.toNat : Nat) : Int) == ((d.toNat : Nat) : Int)) = true := by subst h; exact beq_self_eq_true _
theorem byte_no {c d : UInt8} (h : ¬ c = d) : (((c.toNat : Nat) : Int) == ((d.toNat : Nat) : Int)) = false := by
  rw [beq_eq_false_iff_ne]
  intro e
  exact h (UInt8.toNat_inj.1 (by omega))
theorem TxtRow.names {w : World} {base : Nat} {v : Value} {ks : List ByteArray} (h : TxtRow w base v ks) (hne : ks ≠ []) : ∃ g cap, v = .slice (some ⟨g, 0, none⟩) ks.length cap ∧ ks.length ≤ cap ∧ NamesAt w g 0 ks := by
  obtain ⟨g, cap, e, _, hlt, hc, hcell⟩ := h.at hne
  exact ⟨g, cap, e, hc, hlt, fun j hj => by rw [Nat.zero_add]; exact hcell j hj⟩
theorem names_cons (l : List UInt8) : ∃ s ns, namesL l = s :: ns := by
  cases h : namesL l with
  | nil => have := namesL_len l; rw [h] at this; simp at this
  | cons s ns => exact ⟨s, ns, rfl⟩
theorem empty_no {t : ByteArray} (h : 0 < t.size) : t.toList.isEmpty = false := by
  rw [ByteArray.toList_eq]
  rw [Lib.size_eq] at h
  cases e : t.data.toList with
  | nil => rw [e] at h; simp at h
  | cons a r => rfl
theorem empty_yes {t : ByteArray} (h : ¬ 0 < t.size) : t.toList.isEmpty = true := by
  rw [ByteArray.toList_eq]
  rw [Lib.size_eq] at h
  cases e : t.data.toList with
  | nil => rfl
  | cons a r => rw [e] at h; simp at h
set_option maxRecDepth 100000 in
set_option maxHeartbeats 2000000 in
theorem sFindT_any (l : List NodG) (ao : Option Addr) (cap : Nat) (p : ByteArray) (w : World) (hl : l.length ≤ 1048576) (hp : p.size ≤ 1048576) (hA : NodesAt w ao l) (hS : ∀ n ∈ l, Sized1 1048576 n) :
    Calls Tryd.prog 5 #[.agg #[.slice ao l.length cap], .string p] w fun e w' => e = .returned (.int .i64 (findRes l p)) ∧ Below w.heap.size w w' := by
  have htr := fun W (hW : Below w.heap.size w W) => sTree_any l ao cap W hl (hA.stays hW) hS
  have H1 := hide (Box1.start w (.slice ao l.length cap) 29)
  have HA := hide hA
  clear hA hS
  by_cases h8 : p.size ≤ 8000
  · have hd8 : decide ((8000 : Int) < (p.size : Int)) = false := by simp; omega
    cases ht : treeRight l
    · have HF := hide (findRes_not (p := p) ht)
      simp only [ht] at htr
      clear ht
      go_enter Tryd.func5, Tryd.ntmps5
      go_wp2_with (first | (go_at_call 10; refine (htr _ H1.out.below).mono ?_; rintro e w1 ⟨rfl, hb1⟩))
      go_ret
      exact ⟨by rw [HF.out]; rfl, (H1.out.step hb1).below⟩
    · have HTR := hide ((treeR_iff l).1 ht)
      simp only [ht] at htr
      cases ho : opens 126 p
      · have HF0 := hide (findRes_root h8 ht ho)
        clear ht
        by_cases h0 : 0 < p.size
        · have h0i : (0 : Int) < (p.size : Int) := by omega
          have he := empty_no h0
          have hb := byte_no (opens_no ho h0).1
          have hb2 : (((p[0].toNat : Nat) : Int) == 126) = false := hb
          clear ho hb
          cases hs : opens 47 p
          · have HF := hide (HF0.out.trans (findFrom_no hs))
            have hc2 : (((p[0].toNat : Nat) : Int) == 47) = false := byte_no (opens_no hs h0).1
            have hc3 : (((p[0].toNat : Nat) : Int) != 47) = true := by rw [bne, hc2]; rfl
            clear hs
            go_enter Tryd.func5, Tryd.ntmps5
            go_wp2_with (first | (go_at_call 10; refine (htr _ H1.out.below).mono ?_; rintro e w1 ⟨rfl, hb1⟩; have HX := hide (H1.out.step hb1); clear hb1))
            go_ret
            exact ⟨by rw [HF.out]; rfl, HX.out.below⟩
          · have HF := hide (HF0.out.trans (findFrom_yes hs))
            have hc2 : (((p[0].toNat : Nat) : Int) == 47) = true := byte_yes (opens_yes hs).2.1
            have hc3 : (((p[0].toNat : Nat) : Int) != 47) = false := by rw [bne, hc2]; rfl
            have hq1i : (1 : Int) ≤ (p.size : Int) := by omega
            clear hs
            obtain ⟨u, hu⟩ : ∃ u, p.extract 1 p.size = u := ⟨_, rfl⟩
            have hul : u.size ≤ 1048576 := by rw [← hu, ByteArray.size_extract]; omega
            rw [hu] at HF
            have HSp := hide (fun W => sSplit_any u W hul)
            have HLn : Hid ((namesL u.data.toList).length ≤ 1048577) := ⟨by rw [namesL_len]; have := count_size u; omega⟩
            obtain ⟨s0, ns, hns⟩ := names_cons u.data.toList
            rw [hns] at HSp HF HLn
            clear hns
            go_enter Tryd.func5, Tryd.ntmps5
            go_wp2_with (first | (go_at_call 10; refine (htr _ H1.out.below).mono ?_; rintro e w1 ⟨rfl, hb1⟩; have HX := hide (H1.out.step hb1); have hc := HX.out.cell; clear hb1))
            have hd0 : w1.drew.cell? ⟨w.heap.size, 0, none⟩ = some (.slice ao l.length cap) := HX.out.cell
            go_region_held3 (fun W => W.cell? ⟨w.heap.size, 0, none⟩ = some (.slice ao l.length cap)) (first | with_reducible exact hd0 | with_reducible exact hd1 | with_reducible exact hd2) (first | (go_at_call 12; refine (HSp.out _).mono ?_; rintro e w5 ⟨v5, rfl, hT, hb5⟩; obtain ⟨g5, c5, rfl, hc5, hN5⟩ := hT.names (by simp); have HN5 := hide hN5; have HC5 := hide hc5; have HX5 := hide (HX.out.drew.step hb5); have hd1 := HX5.out.cell; clear hT hb5 hN5 hc5) | (go_at_call 11; refine (sFind_any l ao cap HTR.out ns s0 0 g5 0 c5 w5 HC5.out HLn.out (HA.out.stays HX5.out.below) HN5.out).mono ?_; rintro e w6 ⟨rfl, hb6⟩; have HX6 := hide (HX5.out.step hb6); have hd2 := HX6.out.cell; clear hb6))
            go_wp2
            go_ret
            exact ⟨by rw [HF.out]; rfl, HX6.out.below⟩
        · have he := empty_yes h0
          have ho2 : opens 47 p = false := by
            cases e : opens 47 p with
            | false => rfl
            | true => exact absurd (opens_yes e).1 h0
          have HF := hide (HF0.out.trans (findFrom_no ho2))
          clear ho ho2
          go_enter Tryd.func5, Tryd.ntmps5
          go_wp2_with (first | (go_at_call 10; refine (htr _ H1.out.below).mono ?_; rintro e w1 ⟨rfl, hb1⟩; have HX := hide (H1.out.step hb1); clear hb1))
          go_ret
          exact ⟨by rw [HF.out]; rfl, HX.out.below⟩
      · have HF0 := hide (findRes_trash h8 ht ho)
        obtain ⟨h0, hb0, _⟩ := opens_yes ho
        have h0i : (0 : Int) < (p.size : Int) := by omega
        have h1i : (1 : Int) ≤ (p.size : Int) := by omega
        have he := empty_no h0
        have hb2 : (((p[0].toNat : Nat) : Int) == 126) = true := byte_yes hb0
        clear ht ho hb0
        obtain ⟨q, hq⟩ : ∃ q, p.extract 1 p.size = q := ⟨_, rfl⟩
        rw [hq] at HF0
        have hql : q.size ≤ 8000 := by rw [← hq, ByteArray.size_extract]; omega
        by_cases g0 : 0 < q.size
        · have g0i : (0 : Int) < (q.size : Int) := by omega
          have ge := empty_no g0
          cases hs : opens 47 q
          · have HF := hide (HF0.out.trans (findFrom_no hs))
            have hc2 : (((q[0].toNat : Nat) : Int) == 47) = false := byte_no (opens_no hs g0).1
            have hc3 : (((q[0].toNat : Nat) : Int) != 47) = true := by rw [bne, hc2]; rfl
            clear hs
            go_enter Tryd.func5, Tryd.ntmps5
            go_wp2_with (first | (go_at_call 10; refine (htr _ H1.out.below).mono ?_; rintro e w1 ⟨rfl, hb1⟩; have HX := hide (H1.out.step hb1); clear hb1))
            go_ret
            exact ⟨by rw [HF.out]; rfl, HX.out.below⟩
          · have HF := hide (HF0.out.trans (findFrom_yes hs))
            have hc2 : (((q[0].toNat : Nat) : Int) == 47) = true := byte_yes (opens_yes hs).2.1
            have hc3 : (((q[0].toNat : Nat) : Int) != 47) = false := by rw [bne, hc2]; rfl
            have hq1i : (1 : Int) ≤ (q.size : Int) := by omega
            clear hs
            obtain ⟨u, hu⟩ : ∃ u, q.extract 1 q.size = u := ⟨_, rfl⟩
            have hul : u.size ≤ 1048576 := by rw [← hu, ByteArray.size_extract]; omega
            rw [hu] at HF
            have HSp := hide (fun W => sSplit_any u W hul)
            have HLn : Hid ((namesL u.data.toList).length ≤ 1048577) := ⟨by rw [namesL_len]; have := count_size u; omega⟩
            obtain ⟨s0, ns, hns⟩ := names_cons u.data.toList
            rw [hns] at HSp HF HLn
            clear hns
            go_enter Tryd.func5, Tryd.ntmps5
            go_wp2_with (first | (go_at_call 10; refine (htr _ H1.out.below).mono ?_; rintro e w1 ⟨rfl, hb1⟩; have HX := hide (H1.out.step hb1); have hc := HX.out.cell; clear hb1))
            have hd0 : w1.drew.cell? ⟨w.heap.size, 0, none⟩ = some (.slice ao l.length cap) := HX.out.cell
            go_region_held3 (fun W => W.cell? ⟨w.heap.size, 0, none⟩ = some (.slice ao l.length cap)) (first | with_reducible exact hd0 | with_reducible exact hd1 | with_reducible exact hd2) (first | (go_at_call 12; refine (HSp.out _).mono ?_; rintro e w5 ⟨v5, rfl, hT, hb5⟩; obtain ⟨g5, c5, rfl, hc5, hN5⟩ := hT.names (by simp); have HN5 := hide hN5; have HC5 := hide hc5; have HX5 := hide (HX.out.drew.step hb5); have hd1 := HX5.out.cell; clear hT hb5 hN5 hc5) | (go_at_call 11; refine (sFind_any l ao cap HTR.out ns s0 1 g5 0 c5 w5 HC5.out HLn.out (HA.out.stays HX5.out.below) HN5.out).mono ?_; rintro e w6 ⟨rfl, hb6⟩; have HX6 := hide (HX5.out.step hb6); have hd2 := HX6.out.cell; clear hb6))
            go_wp2
            go_ret
            exact ⟨by rw [HF.out]; rfl, HX6.out.below⟩
        · have ge := empty_yes g0
          have ho2 : opens 47 q = false := by
            cases e : opens 47 q with
            | false => rfl
            | true => exact absurd (opens_yes e).1 g0
          have HF := hide (HF0.out.trans (findFrom_no ho2))
          clear ho2
          go_enter Tryd.func5, Tryd.ntmps5
          go_wp2_with (first | (go_at_call 10; refine (htr _ H1.out.below).mono ?_; rintro e w1 ⟨rfl, hb1⟩; have HX := hide (H1.out.step hb1); clear hb1))
          go_ret
          exact ⟨by rw [HF.out]; rfl, HX.out.below⟩
  · have HF := hide (findRes_long (l := l) h8)
    have hd8 : decide ((8000 : Int) < (p.size : Int)) = true := by simp; omega
    go_enter Tryd.func5, Tryd.ntmps5
    go_wp2
    go_ret
    exact ⟨by rw [HF.out]; rfl, H1.out.below⟩
end Go.Proofs.YtmidembbanlleafDoor.OpR
