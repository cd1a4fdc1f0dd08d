/- Proves what impl.onceEach makes of a row of ops: one of each stamp, in the row's own memory. -/
import Derived.Test.YtkfjommoogmehaaDoorOnceL
namespace Go.Proofs.YtkfjommoogmehaaDoor.OpR
open Go.ChangeShapes Go.WideShapes Go.ChangeAt Go.RowKit
set_option linter.unusedVariables false

set_option maxRecDepth 100000 in
set_option maxHeartbeats 1000000 in
theorem once_any (m : List OpV) (g cap : Nat) (w : World) (hm : m.length ≤ 800) (hc : m.length ≤ cap) (hR : RowB w g 31 (cap * 7)) (hA : OpsAt w (some ⟨g, 0, none⟩) m) :
    Calls Tryd.prog 72 #[.slice (some ⟨g, 0, none⟩) m.length cap] w fun e w' => w.grownBy w' (some g) ∧ ((∃ k, once [] m = some k ∧ e = .returned (.tuple #[.slice (some ⟨g, 0, none⟩) k.length k.length, .bool true]) ∧ OpsAt w' (some ⟨g, 0, none⟩) k) ∨ (once [] m = none ∧ e = .returned (.tuple #[.slice none 0 0, .bool false]))) := by
  have HR : Hid (RowB w g 31 (cap * 7)) := ⟨hR⟩
  have HA : Hid (OpsAt w (some ⟨g, 0, none⟩) m) := ⟨hA⟩
  clear hR hA
  go_enter Tryd.func72, Tryd.ntmps72
  go_wp2
  go_loopw [4, 9] (fun kv iv wr => ∃ i K cur, kv = .int .i64 ((List.length K : Nat) : Int) ∧ iv = .int .i64 ((i : Nat) : Int) ∧ Look w wr g cap i m K cur) (fun _ iv _ => m.length - (intOf iv).toNat)
  case atStart => exact ⟨0, [], m, rfl, rfl, ⟨by omega, by simp, rfl, by simp, rfl, HA.out, HR.out, rfl, grown_refl _ _⟩⟩
  case round =>
    obtain ⟨i, K, cur, rfl, rfl, hL⟩ := hrel
    have HL : Hid (Look w wr g cap i m K cur) := ⟨hL⟩
    have hile := hL.ile
    have hkle := hL.kle
    by_cases h : i < m.length
    · obtain ⟨hci, hcv⟩ := hL.cur_at h
      obtain ⟨o, ho⟩ : ∃ o, m[i] = o := ⟨_, rfl⟩
      have HOo : Hid (m[i] = o) := ⟨ho⟩
      have hat := hL.lies.at0 hci
      rw [hcv, ho] at hat
      obtain ⟨c0, c1, c2, c3, c4, c5, c6⟩ := hat
      have hdr : m.drop i = o :: m.drop (i + 1) := by rw [List.drop_eq_getElem_cons h, ho]
      have HDr : Hid (m.drop i = o :: m.drop (i + 1)) := ⟨hdr⟩
      have hglt := hL.row.lt
      have hQ : VarO wr.heap.size wr (wr.alloc (.cells #[.int .i64 o.time, .int .i64 o.repl, .int .i64 o.kind, .int .i64 o.node, .int .i64 o.parent, .string o.name, .string o.value] 31)) wr.heap.size 31 o := ⟨(Below.refl _ _).alloc (Nat.le_refl _) _, heap_alloc_new wr _⟩
      have hQd := hQ.step (Below.refl _ _).drew (by simp)
      have hi0 : (0 : Int) ≤ (i : Int) := by omega
      have hi1 : (i : Int) < (m.length : Int) := by omega
      clear hL hcv ho hdr
      by_cases hK : K.length = 0
      · obtain rfl := List.eq_nil_of_length_eq_zero hK
        obtain ⟨X, hX⟩ : ∃ X, X = (wr.alloc (.cells #[.int .i64 o.time, .int .i64 o.repl, .int .i64 o.kind, .int .i64 o.node, .int .i64 o.parent, .string o.name, .string o.value] 31)).drew := ⟨_, rfl⟩
        have hQX : VarO wr.heap.size wr X wr.heap.size 31 o := by rw [hX]; exact hQd
        have HNew : Hid (Look w (seven X g (([] : List OpV).length * 7) o) g cap (i + 1) m [o] (cur.set 0 o)) := ⟨by
          have h1 := HL.out.keep h hc hQX.below (by rw [HDr.out, HOo.out]; rfl)
          rw [HOo.out] at h1
          exact h1⟩
        clear hQ hQd hkle hK
        have hm0 : (0 : Int) < (m.length : Int) := by omega
        rw [show ((([] : List OpV).length : Nat) : Int) = 0 from rfl]
        go_wp2
        go_region
        rw [← hX]
        clear hX c0 c1 c2 c3 c4 c5 c6
        have RW := HL.out.row.below hQX.below
        obtain ⟨v0, d0⟩ := RW.cell (i := 0) (by omega)
        obtain ⟨v1, d1⟩ := RW.cell (i := 1) (by omega)
        obtain ⟨v2, d2⟩ := RW.cell (i := 2) (by omega)
        obtain ⟨v3, d3⟩ := RW.cell (i := 3) (by omega)
        obtain ⟨v4, d4⟩ := RW.cell (i := 4) (by omega)
        obtain ⟨v5, d5⟩ := RW.cell (i := 5) (by omega)
        obtain ⟨v6, d6⟩ := RW.cell (i := 6) (by omega)
        have f0 := RW.free (0)
        have f1 := RW.free (1)
        have f2 := RW.free (2)
        have f3 := RW.free (3)
        have f4 := RW.free (4)
        have f5 := RW.free (5)
        have f6 := RW.free (6)
        obtain ⟨k0, k1, k2, k3, k4, k5, k6⟩ := hQX.cells
        clear hQX RW
        go_wp2
        go_roundw
        case rel => exact ⟨i + 1, [o], cur.set 0 o, rfl, by go_num, HNew.out⟩
        case measure => simp [intOf]; omega
      · obtain ⟨n, hn⟩ : ∃ n, K.length = n + 1 := ⟨K.length - 1, by omega⟩
        obtain ⟨hcn, hlast⟩ := HL.out.last hn
        obtain ⟨x, hx⟩ : ∃ x, cur[n] = x := ⟨_, rfl⟩
        have hxat : OpAt wr g (n * 7) x := by rw [← hx]; exact HL.out.lies.at0 hcn
        rw [hx] at hlast
        have HX : Hid (OpAt wr g (n * 7) x) := ⟨hxat⟩
        have HLast : Hid (K.getLast? = some x) := ⟨hlast⟩
        have HN : Hid (K.length = n + 1) := ⟨hn⟩
        have hT : (((n : Int) + 1).toNat) = n + 1 := by omega
        have hn0 : (0 : Int) ≤ (n : Int) := by omega
        have hn1 : (n : Int) < (m.length : Int) := by omega
        have hn2 : (0 : Int) ≤ (n : Int) + 1 := by omega
        have hn3 : (n : Int) + 1 < (m.length : Int) := by omega
        have hne1 : ((n : Int) + 1 == 0) = false := by simp; omega
        have hne2 : ¬ ((n : Int) + 1 = 0) := by omega
        have hW : IntKind.i64.wrap (n : Int) = (n : Int) := by rw [IntKind.wrap_i64]; omega
        have hW2 : wrap64 (n : Int) = (n : Int) := by unfold wrap64; omega
        have hcall := fun W => iAhead_any x o W
        unfold OpV.agg at hcall
        rw [show ((K.length : Nat) : Int) = (n : Int) + 1 by omega]
        clear hx hxat hlast hK hn
        go_wp2
        clear c0 c1 c2 c3 c4 c5 c6
        obtain ⟨c0, c1, c2, c3, c4, c5, c6⟩ := HX.out.block (hQd.below.block g hglt)
        obtain ⟨k0, k1, k2, k3, k4, k5, k6⟩ := hQd.cells
        cases ha : ahead x o
        · rw [ha] at hcall
          go_region_held3 (fun w' => w'.cell? ⟨g, n * 7, none⟩ = some (.int .i64 x.time) ∧ w'.cell? ⟨g, n * 7 + 1, none⟩ = some (.int .i64 x.repl) ∧ w'.cell? ⟨g, n * 7 + 2, none⟩ = some (.int .i64 x.kind) ∧ w'.cell? ⟨g, n * 7 + 3, none⟩ = some (.int .i64 x.node) ∧ w'.cell? ⟨g, n * 7 + 4, none⟩ = some (.int .i64 x.parent) ∧ w'.cell? ⟨g, n * 7 + 5, none⟩ = some (.string x.name) ∧ w'.cell? ⟨g, n * 7 + 6, none⟩ = some (.string x.value) ∧ w'.cell? ⟨wr.heap.size, 0, none⟩ = some (.int .i64 o.time) ∧ w'.cell? ⟨wr.heap.size, 1, none⟩ = some (.int .i64 o.repl) ∧ w'.cell? ⟨wr.heap.size, 2, none⟩ = some (.int .i64 o.kind) ∧ w'.cell? ⟨wr.heap.size, 3, none⟩ = some (.int .i64 o.node) ∧ w'.cell? ⟨wr.heap.size, 4, none⟩ = some (.int .i64 o.parent) ∧ w'.cell? ⟨wr.heap.size, 5, none⟩ = some (.string o.name) ∧ w'.cell? ⟨wr.heap.size, 6, none⟩ = some (.string o.value)) (exact ⟨c0, c1, c2, c3, c4, c5, c6, k0, k1, k2, k3, k4, k5, k6⟩) (first | (go_at_call 60; refine (hcall _).mono ?_; rintro e x1 ⟨rfl, hx1⟩; have hQ1 := hQd.step hx1 (by have := hQd.below.size; omega); obtain ⟨c0, c1, c2, c3, c4, c5, c6⟩ := HX.out.block (hQ1.below.block g hglt); obtain ⟨k0, k1, k2, k3, k4, k5, k6⟩ := hQ1.cells))
          clear hcall
          clear hQ hQd
          have hneq := neq_ops x o
          unfold OpV.agg at hneq
          by_cases he : x = o
          · rw [same_true he] at hneq
            have HSame : Hid (once K (m.drop i) = once K (m.drop (i + 1))) := ⟨by rw [HDr.out, once_same (by rw [HLast.out, he])]⟩
            clear he
            go_wp2
            go_region_held3 (fun w' => w'.cell? ⟨g, n * 7, none⟩ = some (.int .i64 x.time) ∧ w'.cell? ⟨g, n * 7 + 1, none⟩ = some (.int .i64 x.repl) ∧ w'.cell? ⟨g, n * 7 + 2, none⟩ = some (.int .i64 x.kind) ∧ w'.cell? ⟨g, n * 7 + 3, none⟩ = some (.int .i64 x.node) ∧ w'.cell? ⟨g, n * 7 + 4, none⟩ = some (.int .i64 x.parent) ∧ w'.cell? ⟨g, n * 7 + 5, none⟩ = some (.string x.name) ∧ w'.cell? ⟨g, n * 7 + 6, none⟩ = some (.string x.value) ∧ w'.cell? ⟨wr.heap.size, 0, none⟩ = some (.int .i64 o.time) ∧ w'.cell? ⟨wr.heap.size, 1, none⟩ = some (.int .i64 o.repl) ∧ w'.cell? ⟨wr.heap.size, 2, none⟩ = some (.int .i64 o.kind) ∧ w'.cell? ⟨wr.heap.size, 3, none⟩ = some (.int .i64 o.node) ∧ w'.cell? ⟨wr.heap.size, 4, none⟩ = some (.int .i64 o.parent) ∧ w'.cell? ⟨wr.heap.size, 5, none⟩ = some (.string o.name) ∧ w'.cell? ⟨wr.heap.size, 6, none⟩ = some (.string o.value)) (exact ⟨c0, c1, c2, c3, c4, c5, c6, k0, k1, k2, k3, k4, k5, k6⟩) (fail)
            clear hW hW2
            go_wp2
            go_roundw
            case rel => exact ⟨i + 1, K, cur, by rw [HN.out]; rfl, by go_num, HL.out.skip h hQ1.below.drew HSame.out⟩
            case measure => simp [intOf]; omega
          · rw [same_false he] at hneq
            have HNone : Hid (once [] m = none) := ⟨by rw [← HL.out.same, HDr.out, once_wrong HLast.out ha he]⟩
            clear he
            go_wp2
            go_region_held3 (fun w' => w'.cell? ⟨g, n * 7, none⟩ = some (.int .i64 x.time) ∧ w'.cell? ⟨g, n * 7 + 1, none⟩ = some (.int .i64 x.repl) ∧ w'.cell? ⟨g, n * 7 + 2, none⟩ = some (.int .i64 x.kind) ∧ w'.cell? ⟨g, n * 7 + 3, none⟩ = some (.int .i64 x.node) ∧ w'.cell? ⟨g, n * 7 + 4, none⟩ = some (.int .i64 x.parent) ∧ w'.cell? ⟨g, n * 7 + 5, none⟩ = some (.string x.name) ∧ w'.cell? ⟨g, n * 7 + 6, none⟩ = some (.string x.value) ∧ w'.cell? ⟨wr.heap.size, 0, none⟩ = some (.int .i64 o.time) ∧ w'.cell? ⟨wr.heap.size, 1, none⟩ = some (.int .i64 o.repl) ∧ w'.cell? ⟨wr.heap.size, 2, none⟩ = some (.int .i64 o.kind) ∧ w'.cell? ⟨wr.heap.size, 3, none⟩ = some (.int .i64 o.node) ∧ w'.cell? ⟨wr.heap.size, 4, none⟩ = some (.int .i64 o.parent) ∧ w'.cell? ⟨wr.heap.size, 5, none⟩ = some (.string o.name) ∧ w'.cell? ⟨wr.heap.size, 6, none⟩ = some (.string o.value)) (exact ⟨c0, c1, c2, c3, c4, c5, c6, k0, k1, k2, k3, k4, k5, k6⟩) (fail)
            go_wp2
            go_ret2
            exact ⟨grown_trans HL.out.grown (mk_below hQ1.below.drew), .inr ⟨HNone.out, rfl⟩⟩
        · rw [ha] at hcall
          go_region_held3 (fun w' => w'.cell? ⟨g, n * 7, none⟩ = some (.int .i64 x.time) ∧ w'.cell? ⟨g, n * 7 + 1, none⟩ = some (.int .i64 x.repl) ∧ w'.cell? ⟨g, n * 7 + 2, none⟩ = some (.int .i64 x.kind) ∧ w'.cell? ⟨g, n * 7 + 3, none⟩ = some (.int .i64 x.node) ∧ w'.cell? ⟨g, n * 7 + 4, none⟩ = some (.int .i64 x.parent) ∧ w'.cell? ⟨g, n * 7 + 5, none⟩ = some (.string x.name) ∧ w'.cell? ⟨g, n * 7 + 6, none⟩ = some (.string x.value) ∧ w'.cell? ⟨wr.heap.size, 0, none⟩ = some (.int .i64 o.time) ∧ w'.cell? ⟨wr.heap.size, 1, none⟩ = some (.int .i64 o.repl) ∧ w'.cell? ⟨wr.heap.size, 2, none⟩ = some (.int .i64 o.kind) ∧ w'.cell? ⟨wr.heap.size, 3, none⟩ = some (.int .i64 o.node) ∧ w'.cell? ⟨wr.heap.size, 4, none⟩ = some (.int .i64 o.parent) ∧ w'.cell? ⟨wr.heap.size, 5, none⟩ = some (.string o.name) ∧ w'.cell? ⟨wr.heap.size, 6, none⟩ = some (.string o.value)) (exact ⟨c0, c1, c2, c3, c4, c5, c6, k0, k1, k2, k3, k4, k5, k6⟩) (first | (go_at_call 60; refine (hcall _).mono ?_; rintro e x1 ⟨rfl, hx1⟩; have hQ1 := hQd.step hx1 (by have := hQd.below.size; omega); obtain ⟨c0, c1, c2, c3, c4, c5, c6⟩ := HX.out.block (hQ1.below.block g hglt); obtain ⟨k0, k1, k2, k3, k4, k5, k6⟩ := hQ1.cells))
          clear hcall
          clear hW hW2 hne1 hne2
          have HNew : Hid (Look w (seven x1 g ((n + 1) * 7) o) g cap (i + 1) m (K ++ [o]) (cur.set (n + 1) o)) := ⟨by
            have h1 := HL.out.keep h hc hQ1.below (by rw [HDr.out, HOo.out]; exact once_more HLast.out ha)
            rw [HOo.out, HN.out] at h1
            exact h1⟩
          have RW := HL.out.row.below hQ1.below
          clear c0 c1 c2 c3 c4 c5 c6
          obtain ⟨v0, d0⟩ := RW.cell (i := (n + 1) * 7) (by omega)
          obtain ⟨v1, d1⟩ := RW.cell (i := (n + 1) * 7 + 1) (by omega)
          obtain ⟨v2, d2⟩ := RW.cell (i := (n + 1) * 7 + 2) (by omega)
          obtain ⟨v3, d3⟩ := RW.cell (i := (n + 1) * 7 + 3) (by omega)
          obtain ⟨v4, d4⟩ := RW.cell (i := (n + 1) * 7 + 4) (by omega)
          obtain ⟨v5, d5⟩ := RW.cell (i := (n + 1) * 7 + 5) (by omega)
          obtain ⟨v6, d6⟩ := RW.cell (i := (n + 1) * 7 + 6) (by omega)
          have f0 := RW.free ((n + 1) * 7)
          have f1 := RW.free ((n + 1) * 7 + 1)
          have f2 := RW.free ((n + 1) * 7 + 2)
          have f3 := RW.free ((n + 1) * 7 + 3)
          have f4 := RW.free ((n + 1) * 7 + 4)
          have f5 := RW.free ((n + 1) * 7 + 5)
          have f6 := RW.free ((n + 1) * 7 + 6)
          clear hQ hQd hQ1 RW
          go_wp2
          go_roundw
          case rel => exact ⟨i + 1, K ++ [o], cur.set (n + 1) o, by rw [List.length_append, HN.out]; go_num, by go_num, HNew.out⟩
          case measure => simp [intOf]; omega
    · obtain rfl : i = m.length := by omega
      have hk : once [] m = some K := by rw [← hL.same, List.drop_length]; rfl
      have hkl : K.length ≤ m.length := hkle
      have HK : Hid (once [] m = some K) := ⟨hk⟩
      have hsl := fun W => slice_cut W g 0 m.length cap K.length ((K.length : Nat) : Int) rfl (by omega)
      clear hL hk
      go_wp2
      go_ret2
      refine ⟨HL.out.grown, .inl ⟨K, HK.out, rfl, ?_⟩⟩
      have h1 := HL.out.lies.take K.length
      rwa [HL.out.take] at h1
end Go.Proofs.YtkfjommoogmehaaDoor.OpR
