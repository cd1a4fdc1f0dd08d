/- Proves what slices.Compact makes of a row of texts that the call owns. -/
import Derived.Test.YtmidembbanlleagChgM
import Derived.Test.YtmidembbanlleagStrs
import Derived.Lib.SliceRun
namespace Go.Proofs.Ytmidembbanlleag.OpR
open Go.ChangeShapes Go.WideShapes Go.ChangeAt Go.RowKit
set_option linter.unusedVariables false

theorem dd_cc (x y : ByteArray) (r : List ByteArray) : dd (x :: y :: r) = if x = y then dd (y :: r) else x :: dd (y :: r) := by rw [dd]
theorem dd_1 (x : ByteArray) : dd [x] = [x] := by rw [dd]
theorem dd_snoc : ∀ (l : List ByteArray) (y x : ByteArray), dd (l ++ [y] ++ [x]) = if y = x then dd (l ++ [y]) else dd (l ++ [y]) ++ [x]
  | [], y, x => by
    simp only [List.nil_append, List.cons_append]
    rw [dd_cc, dd_1, dd_1]
    by_cases h : y = x
    · rw [if_pos h, if_pos h, h]
    · rw [if_neg h, if_neg h]; rfl
  | [a], y, x => by
    have ih := dd_snoc [] y x
    simp only [List.cons_append, List.nil_append] at ih ⊢
    rw [dd_cc a y [x], dd_cc a y [], ih]
    by_cases h1 : a = y <;> by_cases h2 : y = x <;> simp [h1, h2]
  | a :: b :: l, y, x => by
    have ih := dd_snoc (b :: l) y x
    simp only [List.cons_append] at ih ⊢
    rw [dd_cc a b (l ++ [y] ++ [x]), dd_cc a b (l ++ [y]), ih]
    by_cases h1 : a = b <;> by_cases h2 : y = x <;> simp [h1, h2]
theorem dd_more {ts : List ByteArray} {m : Nat} (h0 : 0 < m) (h : m < ts.length) : dd (ts.take (m + 1)) = if ts[m - 1] = ts[m] then dd (ts.take m) else dd (ts.take m) ++ [ts[m]] := by
  obtain ⟨p, rfl⟩ : ∃ p, m = p + 1 := ⟨m - 1, by omega⟩
  have e1 : ts.take (p + 1) = ts.take p ++ [ts[p]] := (List.take_append_getElem (by omega)).symm
  have e2 : ts.take (p + 1 + 1) = ts.take p ++ [ts[p]] ++ [ts[p + 1]] := by rw [← e1]; exact (List.take_append_getElem h).symm
  rw [e2, dd_snoc, ← e1]
  simp
theorem dd_one {ts : List ByteArray} (h : ts.length ≤ 1) : dd ts = ts := by
  match ts, h with
  | [], _ => rfl
  | [x], _ => rfl
theorem dd_same {ts : List ByteArray} : ∀ {m : Nat}, 0 < m → m ≤ ts.length → (∀ j (h : j < ts.length) (h0 : 0 < j), j < m → ¬ ts[j - 1] = ts[j]) → dd (ts.take m) = ts.take m
  | 0, h, _, _ => absurd h (by omega)
  | 1, _, hm, _ => dd_one (by rw [List.length_take]; omega)
  | m + 2, _, hm, h => by
    rw [dd_more (by omega) (by omega), if_neg (h (m + 1) (by omega) (by omega) (by omega)), dd_same (m := m + 1) (by omega) (by omega) (fun j hj h0 hl => h j hj h0 (by omega))]
    exact List.take_append_getElem (by omega)
/-- What the second loop has made of the texts: m looked at, n kept. -/
structure Cmp (ts cur : List ByteArray) (m n : Nat) : Prop where
  len : (dd (ts.take m)).length = n
  lt : n < m
  is : cur = dd (ts.take m) ++ ts.drop n
theorem Cmp.size {ts cur : List ByteArray} {m n : Nat} (h : Cmp ts cur m n) (hm : m ≤ ts.length) : cur.length = ts.length := by
  have := h.len; have := h.lt
  rw [h.is, List.length_append, List.length_drop]
  omega
theorem Cmp.high {ts cur : List ByteArray} {m n j : Nat} (h : Cmp ts cur m n) (hj : n ≤ j) (hl : j < ts.length) (hc : j < cur.length) : cur[j] = ts[j] := by
  have e := h.is
  have := h.len
  subst e
  rw [List.getElem_append_right (by omega), List.getElem_drop]
  congr 1
  omega
theorem Cmp.skip {ts cur : List ByteArray} {m n : Nat} (h : Cmp ts cur m n) (hm : m < ts.length) (he : ts[m - 1] = ts[m]) : Cmp ts cur (m + 1) n := by
  have e : dd (ts.take (m + 1)) = dd (ts.take m) := by rw [dd_more (by have := h.lt; omega) hm, if_pos he]
  exact ⟨by rw [e]; exact h.len, by have := h.lt; omega, by rw [e]; exact h.is⟩
theorem Cmp.keep {ts cur : List ByteArray} {m n : Nat} (h : Cmp ts cur m n) (hm : m < ts.length) (he : ¬ ts[m - 1] = ts[m]) : Cmp ts (cur.set n ts[m]) (m + 1) (n + 1) := by
  have hlt := h.lt
  have hl := h.len
  have e : dd (ts.take (m + 1)) = dd (ts.take m) ++ [ts[m]] := by rw [dd_more (by omega) hm, if_neg he]
  refine ⟨by rw [e]; simp [hl], by omega, ?_⟩
  rw [e, h.is, List.set_append_right _ _ (by omega), hl, Nat.sub_self, List.drop_eq_getElem_cons (show n < ts.length by omega), List.set_cons_zero]
  simp
theorem Cmp.start {ts : List ByteArray} {k : Nat} (h0 : 0 < k) (hk : k < ts.length) (hall : ∀ j (h : j < ts.length) (h0 : 0 < j), j < k → ¬ ts[j - 1] = ts[j]) (he : ts[k - 1] = ts[k]) : Cmp ts ts (k + 1) k := by
  have e : dd (ts.take (k + 1)) = ts.take k := by rw [dd_more h0 hk, if_pos he, dd_same h0 (by omega) hall]
  exact ⟨by rw [e]; simp; omega, by omega, by rw [e]; exact (List.take_append_drop k ts).symm⟩
theorem TxtRow.cut {w : World} {base g cap : Nat} {xs : List ByteArray} {n : Nat} (h : TxtRow w base (.slice (some ⟨g, 0, none⟩) xs.length cap) xs) (hn : n ≤ xs.length) : TxtRow w base (.slice (some ⟨g, 0, none⟩) n cap) (xs.take n) := by
  unfold TxtRow at h ⊢
  have e : (xs.take n).length = n := by simp; omega
  rw [e]
  rcases h.2 with ⟨e', _⟩ | ⟨g', cap', cur, e', hb, hg, h1, h2, h3, h4⟩
  · cases e'
  · simp only [Value.slice.injEq, Option.some.injEq, Addr.mk.injEq] at e'
    obtain ⟨⟨rfl, _⟩, _, rfl⟩ := e'
    refine ⟨by simp [txts]; omega, .inr ⟨g, cap, cur, rfl, hb, hg, by omega, h2, h3, ?_⟩⟩
    have h5 : cur.toList.take (n * 1) = (cur.toList.take (xs.length * 1)).take n := by rw [List.take_take]; congr 1; omega
    rw [h5, h4]
    simp [txts]
theorem TxtRow.wipe {base g cap n : Nat} : ∀ (c p : Nat) (w : World) (xs : List ByteArray), TxtRow w base (.slice (some ⟨g, 0, none⟩) xs.length cap) xs → n ≤ p → ∃ ys : List ByteArray, ys.length = xs.length ∧ ys.take n = xs.take n ∧ TxtRow (w.setCells g p (List.replicate c (.string ⟨#[]⟩))) base (.slice (some ⟨g, 0, none⟩) xs.length cap) ys ∧ w.grownBy (w.setCells g p (List.replicate c (.string ⟨#[]⟩))) (some g)
  | 0, p, w, xs, h, _ => ⟨xs, rfl, rfl, h, ⟨rfl, rfl, rfl, Nat.le_refl _, fun _ _ _ => rfl⟩⟩
  | c + 1, p, w, xs, h, hp => by
    have h1 := h.store p ⟨#[]⟩
    obtain ⟨ys, e1, e2, h2, h3⟩ := TxtRow.wipe (n := n) c (p + 1) (w.setCell ⟨g, p, none⟩ (.string ⟨#[]⟩)) (xs.set p ⟨#[]⟩) h1 (by omega)
    rw [List.length_set] at e1 h2
    refine ⟨ys, e1, ?_, h2, ⟨h3.os, h3.tape, h3.output, Nat.le_trans (by simp [World.setCell]) h3.size, fun k hk hne => ?_⟩⟩
    · rw [e2, List.take_set_of_le hp]
    · exact (h3.block k (by simpa [World.setCell] using hk) hne).trans (Below.heap_setCell _ _ _ _ (fun e => hne (by rw [e])))
theorem slice_fromT (W : World) (g o len cap k : Nat) (K : Int) (hK : K = (k : Int)) (h : k < len) (hc : len ≤ cap) :
    (Instr.slice 49 (.slice (some ⟨g, o, none⟩) len cap) (some (.int .i64 K)) none none).run Try.prog W = .ok (.slice (some ⟨g, o + k, none⟩) (len - k) (cap - k)) W := by
  subst hK
  have ht : Try.prog.underlying 49 = some (.slice (Try.prog.elem 49)) := by kernel_rfl
  have hs : ∀ w, (sizeOf (Try.prog.elem 49)).run Try.prog w = .ok 1 w := fun _ => by kernel_rfl
  rw [run_slice_l W 49 (some ⟨g, o, none⟩) len cap ht .i64 (k : Int) (by omega) (by omega), hs]
  have : ¬ cap = k := by omega
  simp [Result.andThen, sliced, Addr.add, this]
theorem slice_toT (W : World) (g o len cap k : Nat) (K : Int) (hK : K = (k : Int)) (h : k ≤ len) (hc : len ≤ cap) :
    (Instr.slice 49 (.slice (some ⟨g, o, none⟩) len cap) none (some (.int .i64 K)) none).run Try.prog W = .ok (.slice (some ⟨g, o, none⟩) k cap) W := by
  subst hK
  have ht : Try.prog.underlying 49 = some (.slice (Try.prog.elem 49)) := by kernel_rfl
  have hs : ∀ w, (sizeOf (Try.prog.elem 49)).run Try.prog w = .ok 1 w := fun _ => by kernel_rfl
  rw [run_slice_h W 49 (some ⟨g, o, none⟩) len cap ht .i64 (k : Int) (by omega) (by omega), hs]
  simp [Result.andThen, sliced, Addr.add]
theorem txt_drewN {w : World} {base : Nat} {v : Value} {ts : List ByteArray} (h : TxtRow w base v ts) (q : Nat) : TxtRow (w.drewN q) base v ts := h
theorem txt_drew {w : World} {base : Nat} {v : Value} {ts : List ByteArray} (h : TxtRow w base v ts) : TxtRow w.drew base v ts := h
theorem grown_drew {w c : World} {r : Option Nat} (h : w.grownBy c r) : w.grownBy c.drew r := ⟨h.os, h.tape, h.output, h.size, h.block⟩
set_option maxRecDepth 100000 in
set_option maxHeartbeats 2000000 in
theorem compact_any (ts : List ByteArray) (base g cap : Nat) (w : World) (hO : TxtRow w base (.slice (some ⟨g, 0, none⟩) ts.length cap) ts) (hl : ts.length ≤ 1048576) (hc : ts.length ≤ cap) :
    Calls Try.prog 39 #[.slice (some ⟨g, 0, none⟩) ts.length cap] w fun e w' => e = .returned (.slice (some ⟨g, 0, none⟩) (dd ts).length cap) ∧ TxtRow w' base (.slice (some ⟨g, 0, none⟩) (dd ts).length cap) (dd ts) ∧ w.grownBy w' (some g) := by
  have HO := hide hO
  clear hO
  by_cases h2 : ts.length < 2
  · have HE := hide (dd_one (ts := ts) (by omega))
    have h2' : (ts.length : Int) < 2 := by omega
    go_enter Try.func39, Try.ntmps39
    go_wp2
    go_ret
    exact ⟨by rw [HE.out]; rfl, by rw [HE.out]; exact HO.out, ⟨rfl, rfl, rfl, Nat.le_refl _, fun _ _ _ => rfl⟩⟩
  · have h2' : ¬ (ts.length : Int) < 2 := by omega
    go_enter Try.func39, Try.ntmps39
    go_wp2
    go_loopw [3] (fun s3 wr => ∃ k : Nat, 0 < k ∧ k ≤ ts.length ∧ s3 = .int .i64 k ∧ Hid (∀ j (h : j < ts.length) (h0 : 0 < j), j < k → ¬ ts[j - 1] = ts[j]) ∧ TxtRow wr base (.slice (some ⟨g, 0, none⟩) ts.length cap) ts ∧ w.grownBy wr (some g)) (fun s3 _ => ts.length - (intOf s3).toNat)
    case atStart => exact ⟨1, by omega, by omega, rfl, ⟨fun j h h0 hj => by omega⟩, HO.out, ⟨rfl, rfl, rfl, Nat.le_refl _, fun _ _ _ => rfl⟩⟩
    case round =>
      obtain ⟨k, hk0, hk, rfl, I, hX, hg⟩ := hrel
      have HX := hide hX
      have HG := hide hg
      clear hX hg
      by_cases hkl : k < ts.length
      · obtain ⟨k, rfl⟩ : ∃ p, k = p + 1 := ⟨k - 1, by omega⟩
        have hc1 := HX.out.cell.2 (k + 1) hkl
        have hc0 := HX.out.cell.2 k (by omega)
        have hi0 : (0 : Int) ≤ ((k + 1 : Nat) : Int) := by omega
        have hi1 : ((k + 1 : Nat) : Int) < (ts.length : Int) := by omega
        have hi2 : (0 : Int) ≤ (k : Int) := by omega
        have hi3 : (k : Int) < (ts.length : Int) := by omega
        have hW : IntKind.i64.wrap (k : Int) = (k : Int) := by rw [IntKind.wrap_i64]; omega
        have hW2 : wrap64 (k : Int) = (k : Int) := by unfold wrap64; omega
        by_cases he : ts[k] = ts[k + 1]
        · have hef : (ts[k + 1].toList == ts[k].toList) = true := by rw [he]; exact beq_self_eq_true _
          have HS := hide (Cmp.start (k := k + 1) (by omega) hkl I.out he)
          obtain ⟨L2, hL2⟩ : ∃ L2, ts.length - (k + 1) = L2 := ⟨_, rfl⟩
          have hsl := fun W => slice_fromT W g 0 ts.length cap (k + 1) ((k : Int) + 1) (by omega) hkl hc
          rw [hL2] at hsl
          have HL2 : Hid (k + 1 + L2 = ts.length) := ⟨by omega⟩
          have HX1 := hide (txt_drew HX.out)
          have HG1 := hide (grown_drew HG.out)
          clear he hL2
          go_wp2_with fail
          go_region
          all_goals (
            obtain ⟨wa, hwa⟩ : ∃ wa, wr.drew = wa := ⟨_, rfl⟩
            rw [hwa] at HX1 HG1 ⊢
            clear hwa hc0 hc1 HX HG hef
            go_wp2
            go_loopw [3, 5] (fun s3 s5 wr => ∃ (n q : Nat) (cur : List ByteArray), s3 = .int .i64 n ∧ s5 = .int .i64 ((q + 1 : Nat) : Int) ∧ q + 1 ≤ L2 ∧ Hid (Cmp ts cur (k + 1 + (q + 1)) n) ∧ TxtRow wr base (.slice (some ⟨g, 0, none⟩) ts.length cap) cur ∧ w.grownBy wr (some g)) (fun _ s5 _ => L2 - (intOf s5).toNat)
            case atStart => exact ⟨k + 1, 0, ts, by go_num, by go_num, by have := HL2.out; omega, HS, HX1.out, HG1.out⟩
            case round =>
              obtain ⟨n, q, cur, rfl, rfl, hq, C, hX, hg⟩ := hrel
              have HX := hide hX
              have HG := hide hg
              have hn : n < k + 1 + (q + 1) := C.out.lt
              have hnT : n < ts.length := by have := HL2.out; omega
              have HCl : Hid (cur.length = ts.length) := ⟨C.out.size (by have := HL2.out; omega)⟩
              clear hX hg
              have hn0 : (0 : Int) ≤ (n : Int) := by omega
              have hn1 : (n : Int) < (ts.length : Int) := by omega
              by_cases hql : q + 1 < L2
              · have hm : k + 1 + (q + 1) < ts.length := by have := HL2.out; omega
                have hc1 := HX.out.cell.2 (k + 1 + (q + 1)) (by rw [HCl.out]; exact hm)
                have hc0 := HX.out.cell.2 (k + 1 + q) (by rw [HCl.out]; omega)
                rw [C.out.high (by omega) hm] at hc1
                rw [C.out.high (by omega) (by omega)] at hc0
                have hcn := HX.out.cell.2 n (by rw [HCl.out]; exact hnT)
                have hfn := HX.out.frozen n
                have hq0 : (0 : Int) ≤ ((q + 1 : Nat) : Int) := by omega
                have hq1 : ((q + 1 : Nat) : Int) < (L2 : Int) := by omega
                have hq2 : (0 : Int) ≤ (q : Int) := by omega
                have hq3 : (q : Int) < (L2 : Int) := by omega
                have hV : IntKind.i64.wrap (q : Int) = (q : Int) := by rw [IntKind.wrap_i64]; have := HL2.out; omega
                have hV2 : wrap64 (q : Int) = (q : Int) := by unfold wrap64; have := HL2.out; omega
                by_cases he : ts[k + 1 + q] = ts[k + 1 + (q + 1)]
                · have hef : (ts[k + 1 + (q + 1)].toList == ts[k + 1 + q].toList) = true := by rw [he]; exact beq_self_eq_true _
                  have C2 : Hid (Cmp ts cur (k + 1 + (q + 1 + 1)) n) := ⟨C.out.skip hm he⟩
                  clear he hcn
                  go_wp2_with fail
                  go_region
                  all_goals (
                    go_wp2
                    go_roundw
                    case rel => exact ⟨n, q + 1, cur, rfl, by go_num, by omega, C2, txt_drew HX.out, grown_drew HG.out⟩
                    case measure => simp [intOf]; omega)
                · have hef : (ts[k + 1 + (q + 1)].toList == ts[k + 1 + q].toList) = false := beq_eq_false_iff_ne.2 fun e => he (toListR_inj e).symm
                  have C2 : Hid (Cmp ts (cur.set n ts[k + 1 + (q + 1)]) (k + 1 + (q + 1 + 1)) (n + 1)) := ⟨C.out.keep hm he⟩
                  have HX2 : Hid (TxtRow (wr.setCell ⟨g, n, none⟩ (.string ts[k + 1 + (q + 1)])) base (.slice (some ⟨g, 0, none⟩) ts.length cap) (cur.set n ts[k + 1 + (q + 1)])) := ⟨by have h0 := HX.out; rw [← HCl.out] at h0 ⊢; have h1 := h0.store n ts[k + 1 + (q + 1)]; rwa [List.length_set] at h1⟩
                  clear he
                  go_wp2_with fail
                  go_region
                  all_goals (
                    go_wp2
                    go_roundw
                    case rel => exact ⟨n + 1, q + 1, cur.set n ts[k + 1 + (q + 1)], by go_num, by go_num, by omega, C2, HX2.out, grown_drew (txt_grown_set HG.out _ _)⟩
                    case measure => simp [intOf]; omega)
              · have hqe : k + 1 + (q + 1) = ts.length := by have := HL2.out; omega
                have C2 := C.out
                rw [hqe] at C2
                have hlen := C2.len
                have his := C2.is
                rw [List.take_length] at hlen his
                have hq1 : ¬ ((q + 1 : Nat) : Int) < (L2 : Int) := by omega
                obtain ⟨L3, hL3⟩ : ∃ L3, ts.length - n = L3 := ⟨_, rfl⟩
                have hsl3 := fun W => slice_fromT W g 0 ts.length cap n (n : Int) rfl hnT hc
                have hsl4 := fun W => slice_toT W g 0 ts.length cap n (n : Int) rfl (by omega) hc
                rw [hL3, Nat.zero_add] at hsl3
                have hcl : ∀ ty, (Builtin.clear_ #[49] ty #[.slice (some ⟨g, n, none⟩) L3 (cap - n)]).run Try.prog wr = .ok (.tuple #[]) (wr.setCells g n (List.replicate L3 (.string ⟨#[]⟩))) := fun ty =>
                  Lib.run_clear_slice wr 49 9 ty _ Try.underlying49 (fun _ => by kernel_rfl) rfl rfl g n L3 (cap - n) (by omega) (fun j hj => by rw [HX.out.cell.2 (n + j) (by rw [HCl.out]; omega)]; rfl) (fun j hj => HX.out.frozen (n + j))
                obtain ⟨ys, e1, e2, hY, hgY⟩ := TxtRow.wipe (n := n) L3 n wr cur (by have := HX.out; rwa [← HCl.out] at this) (Nat.le_refl _)
                have HY : Hid (TxtRow (wr.setCells g n (List.replicate L3 (.string ⟨#[]⟩))) base (.slice (some ⟨g, 0, none⟩) (dd ts).length cap) (dd ts)) := ⟨by
                  rw [hlen]
                  rw [← e1] at hY
                  have h5 := hY.cut (n := n) (by rw [e1, HCl.out]; omega)
                  rw [e2, his, List.take_append_of_le_length (by omega), List.take_of_length_le (by omega)] at h5
                  exact h5⟩
                have HGY : Hid (w.grownBy (wr.setCells g n (List.replicate L3 (.string ⟨#[]⟩))) (some g)) := ⟨⟨hgY.os.trans HG.out.os, hgY.tape.trans HG.out.tape, hgY.output.trans HG.out.output, Nat.le_trans HG.out.size hgY.size, fun j hj hne => (hgY.block j (Nat.lt_of_lt_of_le hj HG.out.size) hne).trans (HG.out.block j hj hne)⟩⟩
                have HLn := hide hlen
                clear hlen his e1 e2 hY hgY hL3 hqe C2
                go_wp2
                go_ret
                exact ⟨by rw [HLn.out]; rfl, HY.out, HGY.out⟩)
        · have hef : (ts[k + 1].toList == ts[k].toList) = false := beq_eq_false_iff_ne.2 fun e => he (toListR_inj e).symm
          have I2 : Hid (∀ j (h : j < ts.length) (h0 : 0 < j), j < k + 1 + 1 → ¬ ts[j - 1] = ts[j]) := ⟨fun j h h0 hj => by
            rcases Nat.lt_or_ge j (k + 1) with h' | h'
            · exact I.out j h h0 h'
            · obtain rfl : j = k + 1 := by omega
              exact he⟩
          clear he
          go_wp2_with fail
          go_region
          all_goals (
            go_wp2
            go_roundw
            case rel => exact ⟨k + 1 + 1, by omega, by omega, by go_num, I2, txt_drew HX.out, grown_drew HG.out⟩
            case measure => simp [intOf]; omega)
      · obtain rfl : k = ts.length := by omega
        have HE : Hid (dd ts = ts) := ⟨by have := dd_same (ts := ts) hk0 (Nat.le_refl _) I.out; rwa [List.take_length] at this⟩
        go_wp2
        go_ret
        exact ⟨by rw [HE.out]; rfl, by rw [HE.out]; exact HX.out, HG.out⟩
end Go.Proofs.Ytmidembbanlleag.OpR
