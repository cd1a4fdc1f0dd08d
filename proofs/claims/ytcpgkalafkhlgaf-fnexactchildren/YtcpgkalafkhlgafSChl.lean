/- Proves what spec.Children tells. -/
import Derived.Test.YtcpgkalafkhlgafIChl
import Derived.Test.YtcpgkalafkhlgafSPath
namespace Go.Proofs.Ytcpgkalafkhlgaf.OpR
open Go.ChangeShapes Go.WideShapes Go.ChangeAt Go.RowKit
set_option linter.unusedVariables false

theorem insC_at {n : NodG} : ∀ {s : List NodG} {k : Nat}, k ≤ s.length → (∀ j (hj : j < s.length), j < k → leName s[j] n = true) → (∀ hk : k < s.length, leName s[k] n = false) → insC n s = s.take k ++ n :: s.drop k
  | [], k, hk, _, _ => by
    obtain rfl : k = 0 := by simpa using hk
    rfl
  | q :: r, 0, _, _, h2 => by
    have : leName q n = false := h2 (by simp)
    simp [insC, this]
  | q :: r, k + 1, hk, h1, h2 => by
    have hq : leName q n = true := h1 0 (by simp) (by omega)
    simp only [insC, hq, if_true, List.take_succ_cons, List.drop_succ_cons, List.cons_append]
    rw [insC_at (by simpa using hk) (fun j hj hjk => h1 (j + 1) (by simpa using hj) (by omega)) (fun hk => h2 (by simpa using hk))]
theorem kids_take {l : List NodG} {y : Int} {i : Nat} (h : i < l.length) : kidsTo y [] (l.take (i + 1)) = if l[i].parent = y then insC l[i] (kidsTo y [] (l.take i)) else kidsTo y [] (l.take i) := by
  rw [← List.take_append_getElem h, kidsTo_app]
  rfl
theorem kidsTo_mem {y : Int} {l : List NodG} {n : NodG} (h : n ∈ kidsTo y [] l) : n ∈ l := by
  have := (kidsTo_perm y [] l).mem_iff.1 h
  simp [kidsOf] at this
  exact this.1
theorem leq_of {a b : ByteArray} (h : keyLt b a = false) : (Op.bytesLess a.toList b.toList || a.toList == b.toList) = true := by
  cases e : keyLt a b with
  | true => rw [show Op.bytesLess a.toList b.toList = true from e]; rfl
  | false => rw [kl_tri e h]; simp
theorem leq_not {a b : ByteArray} (h : keyLt b a = true) : (Op.bytesLess a.toList b.toList || a.toList == b.toList) = false := by
  rw [show Op.bytesLess a.toList b.toList = false from kl_asymm h, Bool.false_or]
  refine beq_eq_false_iff_ne.2 fun e => ?_
  rw [toList_inj e, kl_irrefl] at h
  cases h
theorem slice_takeI (g cap : Nat) (xs : List Int) (n : Nat) (hn : xs.length = n) (hc : n ≤ cap) {k : Nat} (hk : k ≤ n) :
    ∃ (a1 : Addr) (c1 : Nat) (p : List Int), p = xs.take k ∧ (∀ W, (Instr.slice 26 (.slice (some ⟨g, 0, none⟩) n cap) none (some (.int .i64 (k : Int))) none).run Try.prog W = .ok (.slice (some a1) p.length c1) W) ∧ ∀ W, IntsAt W (some ⟨g, 0, none⟩) xs → ∀ j u, (ints p)[j]? = some u → W.cell? (a1.add j) = some u := by
  have ht : Try.prog.underlying 26 = some (.slice (Try.prog.elem 26)) := by kernel_rfl
  have hs : ∀ w, (sizeOf (Try.prog.elem 26)).run Try.prog w = .ok 1 w := fun _ => by kernel_rfl
  have e1 : (xs.take k).length = k := by rw [List.length_take]; omega
  refine ⟨⟨g, 0, none⟩, cap, _, rfl, fun W => ?_, fun W hW j u hu => ?_⟩
  · rw [e1, run_slice_h W 26 (some ⟨g, 0, none⟩) n cap ht .i64 (k : Int) (by omega) (by omega), hs]
    simp [Result.andThen, sliced, Addr.add]
  · refine hW.news j u ?_
    have : (ints xs).take k = ints (xs.take k) := by simp [ints, List.map_take]
    rw [← this, List.getElem?_take] at hu
    split at hu
    · exact hu
    · cases hu
theorem slice_dropI (g cap : Nat) (xs : List Int) (n : Nat) (hn : xs.length = n) (hc : n ≤ cap) {k : Nat} (hk : k ≤ n) :
    ∃ (a2 : Addr) (c2 : Nat) (p : List Int), p = xs.drop k ∧ (∀ W, (Instr.slice 26 (.slice (some ⟨g, 0, none⟩) n cap) (some (.int .i64 (k : Int))) none none).run Try.prog W = .ok (.slice (some a2) p.length c2) W) ∧ ∀ W, IntsAt W (some ⟨g, 0, none⟩) xs → ∀ j u, (ints p)[j]? = some u → W.cell? (a2.add j) = some u := by
  have ht : Try.prog.underlying 26 = some (.slice (Try.prog.elem 26)) := by kernel_rfl
  have hs : ∀ w, (sizeOf (Try.prog.elem 26)).run Try.prog w = .ok 1 w := fun _ => by kernel_rfl
  have e2 : (xs.drop k).length = n - k := by rw [List.length_drop, hn]
  refine ⟨if cap = k then ⟨g, 0, none⟩ else ⟨g, k, none⟩, cap - k, _, rfl, fun W => ?_, fun W hW j u hu => ?_⟩
  · rw [e2, run_slice_l W 26 (some ⟨g, 0, none⟩) n cap ht .i64 (k : Int) (by omega) (by omega), hs]
    by_cases h : cap = k
    · simp [Result.andThen, sliced, h]
    · simp [Result.andThen, sliced, h, Addr.add_lit]
  · have hj : j < (xs.drop k).length := by simpa [ints] using (List.getElem?_eq_some_iff.1 hu).1
    rw [e2] at hj
    rw [if_neg (by omega)]
    have h2 := hW.news (k + j) u (by
      have : (ints xs).drop k = ints (xs.drop k) := by simp [ints, List.map_drop]
      rw [← this, List.getElem?_drop] at hu
      exact hu)
    rw [Addr.add_lit] at h2 ⊢
    rwa [Nat.zero_add] at h2
/-- A variable of a tree and one of a node. -/
structure KidB (w c : World) (v : Value) (gn : Nat) (n : NodG) : Prop where
  box : Box1 w c w.heap.size v 30
  node : c.heap[gn]? = some (.cells #[.int .i64 n.id, .int .i64 n.parent, .string n.name, .slice n.pao n.props.length n.pcap] 50 (0, 0))
theorem KidB.lt {w c : World} {v : Value} {gn : Nat} {n : NodG} (h : KidB w c v gn n) : gn < c.heap.size := (Array.getElem?_eq_some_iff.1 h.node).1
theorem KidB.step {w c c' : World} {v : Value} {gn : Nat} {n : NodG} (h : KidB w c v gn n) (hb : Below c.heap.size c c') : KidB w c' v gn n := ⟨h.box.step hb, (hb.block gn h.lt).trans h.node⟩
theorem KidB.drew {w c : World} {v : Value} {gn : Nat} {n : NodG} (h : KidB w c v gn n) : KidB w c.drew v gn n := ⟨h.box.drew, h.node⟩
set_option maxRecDepth 100000 in
set_option maxHeartbeats 2000000 in
theorem sKids_any (l : List NodG) (ao : Option Addr) (cap : Nat) (y : Int) (w : World) (hA : NodesAt w ao l) (ht : TreeR l) :
    Calls Try.prog 24 #[.agg #[.slice ao l.length cap], .int .i64 y] w fun e w' => ∃ v, e = .returned v ∧ IntRow w' w.heap.size v ((kids l y).map NodG.id) ∧ Below w.heap.size w w' := by
  have hl : l.length ≤ 150 := ht.1
  have hat := fun x W (hW : Below w.heap.size w W) => sAt_any l ao cap x W (by unfold maxLen; omega) (hA.stays hW)
  have HT := hide hat
  have HA := hide hA
  have HR := hide ht
  have H1 := hide (Box1.start w (.slice ao l.length cap) 30)
  clear hA hat ht
  go_enter Try.func24, Try.ntmps24
  go_wp2
  have HE0 : Hid (IntRow ((w.alloc (.cells #[.slice ao l.length cap] 30)).alloc (.cells #[] 2)) w.heap.size (.slice (some ⟨w.heap.size + 1, 0, none⟩) 0 0) []) := ⟨⟨rfl, .inr ⟨w.heap.size + 1, 0, #[], rfl, by omega, by simpa using heap_alloc_new (w.alloc (.cells #[.slice ao l.length cap] 30)) (.cells #[] 2), Nat.le_refl _, by decide, rfl, rfl⟩⟩⟩
  have HB0 := hide (H1.out.step ((Below.refl _ _).alloc (Nat.le_refl _) (.cells #[] 2)))
  go_loopw [5, 6] (fun v i wr => ∃ (k g cp : Nat) (s : List NodG), k ≤ l.length ∧ i = .int .i64 k ∧ s = kidsTo y [] (l.take k) ∧ v = .slice (some ⟨g, 0, none⟩) s.length cp ∧ w.heap.size < g ∧ IntRow wr w.heap.size (.slice (some ⟨g, 0, none⟩) s.length cp) (s.map NodG.id) ∧ Box1 w wr w.heap.size (.slice ao l.length cap) 30) (fun _ i _ => l.length - (intOf i).toNat)
  case atStart => exact ⟨0, w.heap.size + 1, 0, [], by omega, rfl, rfl, rfl, by omega, HE0.out, HB0.out⟩
  case round =>
    obtain ⟨k, g, cp, s, hk, rfl, hs, rfl, hgg, hI, hbx⟩ := hrel
    have HI := hide hI
    have HB := hide hbx
    have HS := hide hs
    have hc := hbx.cell
    have hsl : s.length ≤ 150 := by
      have := (kidsTo_perm y [] (l.take k)).length_eq
      rw [hs, this]
      refine Nat.le_trans (List.length_filter_le _ _) ?_
      simp; omega
    clear hI hs
    by_cases h : k < l.length
    · obtain ⟨b, off, rfl, hlt, ho, _⟩ := HA.out k h
      obtain ⟨c0, c1, c2, c3⟩ := ho.block (w' := wr) (hbx.below.block b hlt)
      obtain ⟨n, hn⟩ : ∃ n, l[k] = n := ⟨_, rfl⟩
      rw [hn] at c0 c1 c2 c3
      have HN := hide hn
      have hi0 : (0 : Int) ≤ (k : Int) := by omega
      have hi1 : (k : Int) < (l.length : Int) := by omega
      have HX : Hid (KidB w (wr.alloc (.cells #[.int .i64 n.id, .int .i64 n.parent, .string n.name, .slice n.pao n.props.length n.pcap] 50)) (.slice (some ⟨b, off, none⟩) l.length cap) wr.heap.size n) := ⟨⟨HB.out.also _, heap_alloc_new wr _⟩⟩
      clear ho hbx hn
      by_cases hp : n.parent = y
      · have b0 : (n.parent == y) = true := beq_iff_eq.2 hp
        have b1 : (n.parent != y) = false := by rw [bne, b0]; rfl
        have HF : Hid (kidsTo y [] (l.take (k + 1)) = insC n s) := ⟨by rw [kids_take h, HN.out, if_pos hp, HS.out]⟩
        clear hp
        go_wp2_with fail
        obtain ⟨X, hX⟩ : ∃ X, wr.alloc (.cells #[.int .i64 n.id, .int .i64 n.parent, .string n.name, .slice n.pao n.props.length n.pcap] 50) = X := ⟨_, rfl⟩
        have HIX : Hid (IntRow X w.heap.size (.slice (some ⟨g, 0, none⟩) s.length cp) (s.map NodG.id)) := ⟨by rw [← hX]; exact HI.out.stays ((Below.refl _ _).alloc (Nat.le_refl _) _)⟩
        rw [hX] at HX ⊢
        obtain ⟨gn, hgn⟩ : ∃ gn, wr.heap.size = gn := ⟨_, rfl⟩
        have HXs : Hid (X.heap.size = gn + 1) := ⟨by rw [← hX, ← hgn]; simp⟩
        have HWg : Hid (w.heap.size < gn) := ⟨by rw [← hgn]; exact (Array.getElem?_eq_some_iff.1 HB.out.lies).1⟩
        rw [hgn] at HX ⊢
        clear hX hc c0 c1 c2 c3 hgn
        have HIXa : Hid (∀ W, Below X.heap.size X W → IntsAt W (some ⟨g, 0, none⟩) (s.map NodG.id)) := ⟨fun W hW => by
          obtain ⟨a', c', e2, _, hI'⟩ := (HIX.out.stays hW).at
          simp only [Value.slice.injEq] at e2
          obtain ⟨rfl, _, _⟩ := e2
          exact hI'⟩
        have HRoom : Hid (s.length ≤ cp) := ⟨by
          obtain ⟨a', c', e2, h2, _⟩ := HIX.out.at
          simp only [Value.slice.injEq] at e2
          obtain ⟨_, _, rfl⟩ := e2
          simpa using h2⟩
        go_loopw [8] (fun kv wc => ∃ q : Nat, q ≤ s.length ∧ kv = .int .i64 q ∧ (∀ j (hj : j < s.length), j < q → leName s[j] n = true) ∧ KidB w wc (.slice (some ⟨b, off, none⟩) l.length cap) gn n ∧ Below X.heap.size X wc) (fun kv _ => s.length - (intOf kv).toNat)
        case atStart => exact ⟨0, by omega, rfl, fun j hj h => by omega, HX.out, Below.refl _ _⟩
        case round =>
          obtain ⟨q, hq, rfl, hlow, hK, hbX⟩ := hrel
          have HLow := hide hlow
          have HK := hide hK
          have HBX := hide hbX
          have HQ := hide hq
          clear hlow hK hbX
          by_cases hqs : q < s.length
          · obtain ⟨m, hm⟩ : ∃ m, s[q] = m := ⟨_, rfl⟩
            have hml : m ∈ l := by
              have h1 : m ∈ s := by rw [← hm]; exact List.getElem_mem hqs
              rw [HS.out] at h1
              exact List.mem_of_mem_take (kidsTo_mem h1)
            obtain ⟨j, hj, ea, hjm⟩ : ∃ (j : Nat) (hj : j < l.length), atI l m.id = j ∧ l[j] = m := by
              have h1 := nodOf_mem HR.out.2.1 hml
              rcases at_cases l m.id with ⟨_, en⟩ | ⟨j, hj, ea, en, _⟩
              · rw [en] at h1; cases h1
              · rw [en] at h1
                exact ⟨j, hj, ea, Option.some.inj h1⟩
            have HEA := hide ea
            have hq0 : (0 : Int) ≤ (q : Int) := by omega
            have hq1 : (q : Int) < (s.length : Int) := by omega
            have hj0 : (0 : Int) ≤ (j : Int) := by omega
            have hj1 : (j : Int) < (l.length : Int) := by omega
            have hS : ∀ W, KidB w W (.slice (some ⟨b, off, none⟩) l.length cap) gn n → Below X.heap.size X W → W.cell? ⟨w.heap.size, 0, none⟩ = some (.slice (some ⟨b, off, none⟩) l.length cap) ∧ W.cell? ⟨g, q, none⟩ = some (.int .i64 m.id) ∧ W.cell? ⟨b, off + j * 4 + 2, none⟩ = some (.string m.name) ∧ W.cell? ⟨gn, 2, none⟩ = some (.string n.name) := fun W hW hbW => by
              obtain ⟨b', off', e', hlt', ho', _⟩ := HA.out j hj
              cases e'
              obtain ⟨_, _, d2, _⟩ := ho'.block (w' := W) (hW.box.below.block b hlt')
              rw [hjm] at d2
              obtain ⟨a', c', e2, _, hI'⟩ := (HIX.out.stays hbW).at
              simp only [Value.slice.injEq] at e2
              obtain ⟨rfl, _, _⟩ := e2
              obtain ⟨b2, off2, e3, _, h3⟩ := hI' q (by simpa using hqs)
              cases e3
              rw [Nat.zero_add] at h3
              refine ⟨hW.box.cell, ?_, d2, (cells4 hW.node).2.2.1⟩
              rw [h3]
              simp [hm]
            have HSx := hide hS
            have hd0 := hS _ HK.out.drew (HBX.out.drew)
            have HMq := hide hm
            clear hS hm hml ea hjm
            cases hle : keyLt n.name m.name
            · have hle' : (Op.bytesLess m.name.toList n.name.toList || m.name.toList == n.name.toList) = true := leq_of hle
              go_wp2_with fail
              go_region_held3 (fun W => W.cell? ⟨w.heap.size, 0, none⟩ = some (.slice (some ⟨b, off, none⟩) l.length cap) ∧ W.cell? ⟨g, q, none⟩ = some (.int .i64 m.id) ∧ W.cell? ⟨b, off + j * 4 + 2, none⟩ = some (.string m.name) ∧ W.cell? ⟨gn, 2, none⟩ = some (.string n.name)) (first | with_reducible exact hd0 | with_reducible exact hd1) (first | (go_at_call 31; refine (HT.out m.id _ HK.out.drew.box.below).mono ?_; rintro e w5 ⟨rfl, hb5⟩; rw [HEA.out]; have HK5 := hide (HK.out.drew.step hb5); have HBX5 := hide (HBX.out.drew.trans (hb5.mono HBX.out.size)); have hd1 := HSx.out _ HK5.out HBX5.out; clear hb5))
              go_wp2
              go_roundw
              case rel =>
                refine ⟨q + 1, by omega, by go_num, fun i hi hiq => ?_, HK5.out, HBX5.out⟩
                rcases Nat.lt_or_ge i q with h' | h'
                · exact HLow.out i hi h'
                · obtain rfl : i = q := by omega
                  rw [HMq.out]
                  simp [leName, hle]
              case measure => simp [intOf]; omega
            · have hle' : (Op.bytesLess m.name.toList n.name.toList || m.name.toList == n.name.toList) = false := leq_not hle
              have HUp : Hid (∀ hk : q < s.length, leName s[q] n = false) := ⟨fun _ => by rw [HMq.out]; simp [leName, hle]⟩
              clear hle
              go_wp2_with fail
              go_region_held3 (fun W => W.cell? ⟨w.heap.size, 0, none⟩ = some (.slice (some ⟨b, off, none⟩) l.length cap) ∧ W.cell? ⟨g, q, none⟩ = some (.int .i64 m.id) ∧ W.cell? ⟨b, off + j * 4 + 2, none⟩ = some (.string m.name) ∧ W.cell? ⟨gn, 2, none⟩ = some (.string n.name)) (first | with_reducible exact hd0 | with_reducible exact hd1) (first | (go_at_call 31; refine (HT.out m.id _ HK.out.drew.box.below).mono ?_; rintro e w5 ⟨rfl, hb5⟩; rw [HEA.out]; have HK5 := hide (HK.out.drew.step hb5); have HBX5 := hide (HBX.out.drew.trans (hb5.mono HBX.out.size)); have hd1 := HSx.out _ HK5.out HBX5.out; clear hb5))
              clear hd0 hd1 hle'
              obtain ⟨Z, hZ⟩ : ∃ Z, w5 = Z := ⟨_, rfl⟩
              have HKZ : Hid (KidB w Z (.slice (some ⟨b, off, none⟩) l.length cap) gn n) := ⟨by rw [← hZ]; exact HK5.out⟩
              have HBZ : Hid (Below X.heap.size X Z) := ⟨by rw [← hZ]; exact HBX5.out⟩
              rw [hZ]
              clear hZ
              have HIns : Hid ((insC n s).map NodG.id = (s.map NodG.id).take q ++ [n.id] ++ (s.map NodG.id).drop q) := ⟨by rw [insC_at HQ.out HLow.out HUp.out, List.map_append, List.map_cons, List.map_take, List.map_drop, List.append_assoc]; rfl⟩
              obtain ⟨ad1, c1, p, hp, hsl1, hPp⟩ := slice_takeI g cp (s.map NodG.id) s.length (by simp) HRoom.out (k := q) HQ.out
              obtain ⟨ad2, c2, r, hr, hsl2, hPr⟩ := slice_dropI g cp (s.map NodG.id) s.length (by simp) HRoom.out (k := q) HQ.out
              have HP := hide hp
              have HRr := hide hr
              have HPp := hide hPp
              have HPr := hide hPr
              have HLp : Hid (p.length ≤ 150 ∧ r.length ≤ 150) := ⟨by rw [hp, hr]; simp; omega⟩
              have HIZ := hide (HIXa.out Z HBZ.out)
              have HEm : Hid (IntRow (Z.alloc (.cells #[] 2)) Z.heap.size (.slice (some ⟨Z.heap.size, 0, none⟩) 0 0) []) := ⟨⟨rfl, .inr ⟨Z.heap.size, 0, #[], rfl, Nat.le_refl _, heap_alloc_new Z _, Nat.le_refl _, by decide, rfl, rfl⟩⟩⟩
              have hZlt := HKZ.out.lt
              have hZw := HKZ.out.box.below.size
              clear hp hr hPp hPr
              go_wp2_with (first | (at_builtin; refine wpList_append_I rfl _ _ rfl Z.heap.size (.slice (some ⟨Z.heap.size, 0, none⟩) 0 0) [] rfl HEm.out ad1 p c1 rfl (HPp.out _ (HIZ.out.stays ((Below.refl _ _).alloc (Nat.le_refl _) _))) (by have := HLp.out; simp; omega) (by simp) ?_; intro v1 y1 ho1 hg1; simp only [List.nil_append] at ho1; have HO1 := hide ho1; have HY1 : Hid (Below Z.heap.size Z y1) := ⟨((Below.refl _ _).alloc (Nat.le_refl _) _).grown hg1 (by simp) (fun j hj => by simp [Value.ownBlock] at hj; omega)⟩; have HK1 := hide (HKZ.out.step HY1.out); obtain ⟨d0, d1, d2, d3, _⟩ := cells4 HK1.out.node; clear ho1 hg1 HEm hsl1) | (at_builtin; refine wpList_append_I rfl _ _ rfl Z.heap.size v1 p rfl (HO1.out.stays ((Below.refl _ _).alloc (Nat.le_refl _) _)) ⟨y1.heap.size, 0, none⟩ [n.id] 1 rfl (newsI y1 n.id 2) (by have := HLp.out; simp; omega) (by have := HY1.out.size; simp; omega) ?_; intro v2 y2 ho2 hg2; have HO2 := hide ho2; have HY2 : Hid (Below Z.heap.size Z y2) := ⟨(HY1.out.alloc HY1.out.size _).grown hg2 (by have := HY1.out.size; simp; omega) (fun j hj => (HO1.out.lt j hj).1)⟩; clear ho2 hg2 d0 d1 d2 d3) | (at_builtin; refine wpList_append_I rfl _ _ rfl Z.heap.size v2 (p ++ [n.id]) rfl HO2.out ad2 r c2 rfl (HPr.out _ (HIZ.out.stays HY2.out)) (by have := HLp.out; simp; omega) HY2.out.size ?_; intro v3 y3 ho3 hg3; have HO3 := hide ho3; have HY3 : Hid (Below Z.heap.size Z y3) := ⟨HY2.out.grown hg3 HY2.out.size (fun j hj => (HO2.out.lt j hj).1)⟩; clear ho3 hg3))
              have HLs : Hid ((insC n s).map NodG.id = p ++ [n.id] ++ r) := ⟨by rw [HIns.out, HP.out, HRr.out]⟩
              have hO3 : IntRow y3 Z.heap.size v3 ((insC n s).map NodG.id) := by rw [HLs.out]; exact HO3.out
              obtain ⟨g3, cp3, hv3, hg3⟩ : ∃ g3 cp3, v3 = .slice (some ⟨g3, 0, none⟩) (insC n s).length cp3 ∧ Z.heap.size ≤ g3 := by
                rcases hO3.2 with ⟨_, hn0⟩ | ⟨g', cap', cur, e, hb', _⟩
                · have := congrArg List.length HLs.out
                  rw [hn0] at this
                  simp at this
                · exact ⟨g', cap', by rw [e]; simp, hb'⟩
              subst hv3
              go_roundw
              case rel => exact ⟨k + 1, g3, cp3, insC n s, by omega, by go_num, HF.out.symm, rfl, by have := HWg.out; omega, owns_lower hO3 hZw, HKZ.out.box.step HY3.out⟩
              case measure => simp [intOf]; omega
          · obtain rfl : q = s.length := by omega
            have HUp : Hid (∀ hk : s.length < s.length, leName s[s.length] n = false) := ⟨fun hk => absurd hk (by omega)⟩
            go_wp2_with fail
            go_region
            obtain ⟨Z, hZ⟩ : ∃ Z, wr.drew = Z := ⟨_, rfl⟩
            have HKZ : Hid (KidB w Z (.slice (some ⟨b, off, none⟩) l.length cap) gn n) := ⟨by rw [← hZ]; exact HK.out.drew⟩
            have HBZ : Hid (Below X.heap.size X Z) := ⟨by rw [← hZ]; exact HBX.out.drew⟩
            rw [hZ]
            clear hZ
            have HIns : Hid ((insC n s).map NodG.id = (s.map NodG.id).take s.length ++ [n.id] ++ (s.map NodG.id).drop s.length) := ⟨by rw [insC_at HQ.out HLow.out HUp.out, List.map_append, List.map_cons, List.map_take, List.map_drop, List.append_assoc]; rfl⟩
            obtain ⟨ad1, c1, p, hp, hsl1, hPp⟩ := slice_takeI g cp (s.map NodG.id) s.length (by simp) HRoom.out (k := s.length) HQ.out
            obtain ⟨ad2, c2, r, hr, hsl2, hPr⟩ := slice_dropI g cp (s.map NodG.id) s.length (by simp) HRoom.out (k := s.length) HQ.out
            have HP := hide hp
            have HRr := hide hr
            have HPp := hide hPp
            have HPr := hide hPr
            have HLp : Hid (p.length ≤ 150 ∧ r.length ≤ 150) := ⟨by rw [hp, hr]; simp; omega⟩
            have HIZ := hide (HIXa.out Z HBZ.out)
            have HEm : Hid (IntRow (Z.alloc (.cells #[] 2)) Z.heap.size (.slice (some ⟨Z.heap.size, 0, none⟩) 0 0) []) := ⟨⟨rfl, .inr ⟨Z.heap.size, 0, #[], rfl, Nat.le_refl _, heap_alloc_new Z _, Nat.le_refl _, by decide, rfl, rfl⟩⟩⟩
            have hZlt := HKZ.out.lt
            have hZw := HKZ.out.box.below.size
            clear hp hr hPp hPr
            go_wp2_with (first | (at_builtin; refine wpList_append_I rfl _ _ rfl Z.heap.size (.slice (some ⟨Z.heap.size, 0, none⟩) 0 0) [] rfl HEm.out ad1 p c1 rfl (HPp.out _ (HIZ.out.stays ((Below.refl _ _).alloc (Nat.le_refl _) _))) (by have := HLp.out; simp; omega) (by simp) ?_; intro v1 y1 ho1 hg1; simp only [List.nil_append] at ho1; have HO1 := hide ho1; have HY1 : Hid (Below Z.heap.size Z y1) := ⟨((Below.refl _ _).alloc (Nat.le_refl _) _).grown hg1 (by simp) (fun j hj => by simp [Value.ownBlock] at hj; omega)⟩; have HK1 := hide (HKZ.out.step HY1.out); obtain ⟨d0, d1, d2, d3, _⟩ := cells4 HK1.out.node; clear ho1 hg1 HEm hsl1) | (at_builtin; refine wpList_append_I rfl _ _ rfl Z.heap.size v1 p rfl (HO1.out.stays ((Below.refl _ _).alloc (Nat.le_refl _) _)) ⟨y1.heap.size, 0, none⟩ [n.id] 1 rfl (newsI y1 n.id 2) (by have := HLp.out; simp; omega) (by have := HY1.out.size; simp; omega) ?_; intro v2 y2 ho2 hg2; have HO2 := hide ho2; have HY2 : Hid (Below Z.heap.size Z y2) := ⟨(HY1.out.alloc HY1.out.size _).grown hg2 (by have := HY1.out.size; simp; omega) (fun j hj => (HO1.out.lt j hj).1)⟩; clear ho2 hg2 d0 d1 d2 d3) | (at_builtin; refine wpList_append_I rfl _ _ rfl Z.heap.size v2 (p ++ [n.id]) rfl HO2.out ad2 r c2 rfl (HPr.out _ (HIZ.out.stays HY2.out)) (by have := HLp.out; simp; omega) HY2.out.size ?_; intro v3 y3 ho3 hg3; have HO3 := hide ho3; have HY3 : Hid (Below Z.heap.size Z y3) := ⟨HY2.out.grown hg3 HY2.out.size (fun j hj => (HO2.out.lt j hj).1)⟩; clear ho3 hg3))
            have HLs : Hid ((insC n s).map NodG.id = p ++ [n.id] ++ r) := ⟨by rw [HIns.out, HP.out, HRr.out]⟩
            have hO3 : IntRow y3 Z.heap.size v3 ((insC n s).map NodG.id) := by rw [HLs.out]; exact HO3.out
            obtain ⟨g3, cp3, hv3, hg3⟩ : ∃ g3 cp3, v3 = .slice (some ⟨g3, 0, none⟩) (insC n s).length cp3 ∧ Z.heap.size ≤ g3 := by
              rcases hO3.2 with ⟨_, hn0⟩ | ⟨g', cap', cur, e, hb', _⟩
              · have := congrArg List.length HLs.out
                rw [hn0] at this
                simp at this
              · exact ⟨g', cap', by rw [e]; simp, hb'⟩
            subst hv3
            go_roundw
            case rel => exact ⟨k + 1, g3, cp3, insC n s, by omega, by go_num, HF.out.symm, rfl, by have := HWg.out; omega, owns_lower hO3 hZw, HKZ.out.box.step HY3.out⟩
            case measure => simp [intOf]; omega
      · have b0 : (n.parent == y) = false := beq_eq_false_iff_ne.2 hp
        have b1 : (n.parent != y) = true := by rw [bne, b0]; rfl
        have HF : Hid (kidsTo y [] (l.take (k + 1)) = s) := ⟨by rw [kids_take h, HN.out, if_neg hp, HS.out]⟩
        clear hp
        go_wp2
        go_roundw
        case rel => exact ⟨k + 1, g, cp, s, by omega, by go_num, HF.out.symm, rfl, hgg, HI.out.stays ((Below.refl _ _).alloc (Nat.le_refl _) _), HB.out.also _⟩
        case measure => simp [intOf]; omega
    · obtain rfl : k = l.length := by omega
      have HF : Hid (kids l y = s) := ⟨by rw [HS.out, List.take_length]; rfl⟩
      go_wp2
      go_ret
      exact ⟨_, rfl, by rw [HF.out]; exact HI.out, HB.out.below⟩
set_option maxRecDepth 100000 in
set_option maxHeartbeats 1000000 in
theorem sChildren_any (l : List NodG) (ao : Option Addr) (cap : Nat) (x : Int) (w : World) (hl : l.length ≤ 1048576) (hA : NodesAt w ao l) (hS : ∀ n ∈ l, Sized1 1048576 n) :
    Calls Try.prog 8 #[.agg #[.slice ao l.length cap], .int .i64 x] w fun e w' => ∃ v, e = .returned v ∧ IntRow w' w.heap.size v (kidIds l x) ∧ Below w.heap.size w w' := by
  have htr := fun W (hW : Below w.heap.size w W) => sTree_any l ao cap W hl (hA.stays hW) hS
  have H1 := hide (Box1.start w (.slice ao l.length cap) 30)
  have HA := hide hA
  clear hA hS
  cases ht : treeRight l
  · have HF : Hid (kidIds l x = []) := ⟨kidIds_no ht⟩
    simp only [ht] at htr
    go_enter Try.func8, Try.ntmps8
    go_wp2_with (first | (go_at_call 23; refine (htr _ H1.out.below).mono ?_; rintro e w1 ⟨rfl, hb1⟩))
    have hB1 := H1.out.step hb1
    go_ret
    refine ⟨_, rfl, ?_, hB1.below.alloc hB1.below.size _⟩
    rw [HF.out]
    exact ⟨rfl, .inr ⟨w1.heap.size, 0, #[], rfl, hB1.below.size, heap_alloc_new w1 _, Nat.le_refl _, by decide, rfl, rfl⟩⟩
  · have HTR := hide ((treeR_iff l).1 ht)
    have HF := hide (kidIds_yes (x := x) ht)
    have hkd := fun W (hW : Below w.heap.size w W) => sKids_any l ao cap x W (HA.out.stays hW) HTR.out
    have HKD := hide hkd
    simp only [ht] at htr
    clear hkd ht
    go_enter Try.func8, Try.ntmps8
    go_wp2_with (first | (go_at_call 23; refine (htr _ H1.out.below).mono ?_; rintro e w1 ⟨rfl, hb1⟩; have hbx := H1.out.step hb1; have H2 := hide hbx; have hc := hbx.cell; clear hbx hb1) | (go_at_call 24; refine (HKD.out _ H2.out.below).mono ?_; rintro e w3 ⟨v3, rfl, hI3, hb3⟩))
    go_ret
    exact ⟨_, rfl, by rw [HF.out]; exact owns_lower hI3 H2.out.below.size, (H2.out.step hb3).below⟩
end Go.Proofs.Ytcpgkalafkhlgaf.OpR
