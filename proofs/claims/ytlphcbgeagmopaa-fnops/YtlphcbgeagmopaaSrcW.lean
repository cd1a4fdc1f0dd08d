/- Proves what the draws of the specification answer: a number below the one that is asked for, from a source that stays one. -/
import Derived.Test.YtlphcbgeagmopaaRows
import Derived.WalkKit
import Derived.WalkSpells
import Derived.WalkLawsBesides
import Derived.ProofKit
import Derived.Deep.Light
import Derived.Deep.RegionHeld3
import Derived.Deep.AppendLies
import Derived.BigRegion
namespace Go.Proofs.Ytlphcbgeagmopaa.SrcR
open Go.ChangeShapes Go.WideShapes Go.ChangeAt Go.RowKit Go.ChangeMaps
set_option linter.unusedVariables false

/-- The bytes that are drawn from, as they lie in memory. -/
def Code (w : World) (ao : Option Addr) (len : Nat) : Prop := len ≤ 1048576 ∧ ∀ j, j < len → ∃ (b off : Nat) (c : Int), ao = some ⟨b, off, none⟩ ∧ 0 ≤ c ∧ c ≤ 255 ∧ w.cell? ⟨b, off + j, none⟩ = some (.int .u8 c)
/-- The source. -/
def Src (w : World) (g : Nat) (ao : Option Addr) (len cap : Nat) : Prop := ∃ (p : Nat) (mix sz : Int), p ≤ len ∧ 0 ≤ mix ∧ mix < 18446744073709551616 ∧ 0 ≤ sz ∧ sz ≤ 12 ∧ w.heap[g]? = some (.cells #[.slice ao len cap, .int .i64 (p : Int), .int .u64 mix, .int .i64 sz] 137 (0, 0))

theorem cells4 {w : World} {g : Nat} {v0 v1 v2 v3 : Value} {T : TypeId} (h : w.heap[g]? = some (.cells #[v0, v1, v2, v3] T (0, 0))) :
    (w.cell? ⟨g, 0, none⟩ = some v0 ∧ w.cell? ⟨g, 1, none⟩ = some v1 ∧ w.cell? ⟨g, 2, none⟩ = some v2 ∧ w.cell? ⟨g, 3, none⟩ = some v3) ∧ (w.frozen? ⟨g, 0, none⟩ = false ∧ w.frozen? ⟨g, 1, none⟩ = false ∧ w.frozen? ⟨g, 2, none⟩ = false ∧ w.frozen? ⟨g, 3, none⟩ = false) ∧ g < w.heap.size := by
  refine ⟨⟨by simp [World.cell?, h], by simp [World.cell?, h], by simp [World.cell?, h], by simp [World.cell?, h]⟩, ⟨by simp [World.frozen?, h], by simp [World.frozen?, h], by simp [World.frozen?, h], by simp [World.frozen?, h]⟩, ?_⟩
  exact (Array.getElem?_eq_some_iff.1 h).1

set_option maxRecDepth 100000 in
set_option maxHeartbeats 400000 in
theorem n_one (g : Nat) (most : Int) (w : World) (hm : most ≤ 1) :
    Calls Try.prog 61 #[.pointer (some ⟨g, 0, none⟩), .int .i64 most] w fun e w' => e = .returned (.int .i64 0) ∧ w = w' := by
  go_enter Try.func61, Try.ntmps61
  go_wp2
  go_ret
  exact ⟨rfl, rfl⟩

theorem rng64 (o : BinOp) (a b : Int) : 0 ≤ bits o .u64 a b ∧ bits o .u64 a b < 18446744073709551616 := by
  unfold bits; rw [IntKind.wrap_u64]; omega
theorem set_heap {w : World} {g : Nat} {cs : Array Value} {T : TypeId} (h : w.heap[g]? = some (.cells cs T (0, 0))) (i : Nat) (v : Value) : (w.setCell ⟨g, i, none⟩ v).heap[g]? = some (.cells (cs.setIfInBounds i v) T (0, 0)) := by
  simp [World.setCell, Array.getElem?_modify, h]
theorem grown_set (w : World) (g i : Nat) (v : Value) : w.grownBy (w.setCell ⟨g, i, none⟩ v) (some g) :=
  ⟨rfl, rfl, rfl, by simp [World.setCell], fun k _ hk => Below.heap_setCell _ _ _ _ (fun e => hk (by simp [e]))⟩
theorem grown_trans {a b c : World} {g : Nat} (h : a.grownBy b (some g)) (k : b.grownBy c (some g)) : a.grownBy c (some g) :=
  ⟨k.os.trans h.os, k.tape.trans h.tape, k.output.trans h.output, Nat.le_trans h.size k.size, fun j hj hne => (k.block j (Nat.lt_of_lt_of_le hj h.size) hne).trans (h.block j hj hne)⟩
theorem grown_refl (a : World) (g : Option Nat) : a.grownBy a g := ⟨rfl, rfl, rfl, Nat.le_refl _, fun _ _ _ => rfl⟩
theorem grown_drew {a b : World} {g : Option Nat} (h : a.grownBy b g) : a.grownBy b.drew g := ⟨h.os, h.tape, h.output, h.size, h.block⟩

theorem fin_heap {W : World} {g : Nat} {ao : Option Addr} {len cap : Nat} {x mix sz : Int} (m1 m2 m3 : Int)
    (h : W.heap[g]? = some (.cells #[.slice ao len cap, .int .i64 x, .int .u64 mix, .int .i64 sz] 137 (0, 0))) :
    (((W.setCell ⟨g, 2, none⟩ (.int .u64 m1)).setCell ⟨g, 2, none⟩ (.int .u64 m2)).setCell ⟨g, 2, none⟩ (.int .u64 m3)).heap[g]? = some (.cells #[.slice ao len cap, .int .i64 x, .int .u64 m3, .int .i64 sz] 137 (0, 0)) := by
  rw [set_heap (set_heap (set_heap h 2 _) 2 _) 2 _]; rfl
theorem val_rng (m most : Int) (h0 : 0 ≤ m) (h1 : m < 18446744073709551616) (hm : 1 < most) (hm2 : most ≤ 9223372036854775807) : 0 ≤ wrap64 (m / 1048576 % most) ∧ wrap64 (m / 1048576 % most) < most := by
  have a := Int.emod_nonneg (m / 1048576) (b := most) (by omega)
  have b := Int.emod_lt_of_pos (m / 1048576) (b := most) (by omega)
  rw [Go.IntWalk.wrap64_in _ (by omega)]; exact ⟨a, b⟩
theorem val_rng2 (c m most : Int) (hc0 : 0 ≤ c) (hc1 : c ≤ 255) (h0 : 0 ≤ m) (h1 : m < 18446744073709551616) (hm : 1 < most) (hm2 : most ≤ 9223372036854775807) : 0 ≤ wrap64 ((c + m / 1048576) % most) ∧ wrap64 ((c + m / 1048576) % most) < most := by
  have a := Int.emod_nonneg (c + m / 1048576) (b := most) (by omega)
  have b := Int.emod_lt_of_pos (c + m / 1048576) (b := most) (by omega)
  rw [Go.IntWalk.wrap64_in _ (by omega)]; exact ⟨a, b⟩
theorem fin_src {W : World} {g : Nat} {ao : Option Addr} {len cap p : Nat} {x mix sz : Int} (m1 m2 m3 : Int) (hx : x = (p : Int)) (hp : p ≤ len) (hz0 : 0 ≤ sz) (hz1 : sz ≤ 12) (h30 : 0 ≤ m3) (h31 : m3 < 18446744073709551616)
    (h : W.heap[g]? = some (.cells #[.slice ao len cap, .int .i64 x, .int .u64 mix, .int .i64 sz] 137 (0, 0))) :
    Src (((W.setCell ⟨g, 2, none⟩ (.int .u64 m1)).setCell ⟨g, 2, none⟩ (.int .u64 m2)).setCell ⟨g, 2, none⟩ (.int .u64 m3)) g ao len cap := by
  subst hx
  exact ⟨p, m3, sz, hp, h30, h31, hz0, hz1, fin_heap m1 m2 m3 h⟩
theorem fin_grown {w W : World} {g : Nat} (m1 m2 m3 : Int) (hgr : w.grownBy W (some g)) : w.grownBy (((W.setCell ⟨g, 2, none⟩ (.int .u64 m1)).setCell ⟨g, 2, none⟩ (.int .u64 m2)).setCell ⟨g, 2, none⟩ (.int .u64 m3)) (some g) :=
  grown_trans (grown_trans (grown_trans hgr (grown_set _ _ _ _)) (grown_set _ _ _ _)) (grown_set _ _ _ _)
theorem src_drew {w : World} {g : Nat} {ao : Option Addr} {len cap : Nat} (h : Src w g ao len cap) : Src w.drew g ao len cap := h

set_option maxRecDepth 100000 in
set_option maxHeartbeats 1000000 in
theorem n_end (g : Nat) (most : Int) (w : World) (hm : 1 < most) (hm2 : most ≤ 9223372036854775807) (ao : Option Addr) (len cap p : Nat) (mix sz : Int) (hp : p = len) (hl : len ≤ 1048576) (hx0 : 0 ≤ mix) (hx1 : mix < 18446744073709551616) (hz0 : 0 ≤ sz) (hz1 : sz ≤ 12)
    (h : w.heap[g]? = some (.cells #[.slice ao len cap, .int .i64 (p : Int), .int .u64 mix, .int .i64 sz] 137 (0, 0))) :
    Calls Try.prog 61 #[.pointer (some ⟨g, 0, none⟩), .int .i64 most] w fun e w' => ∃ v, e = .returned (.int .i64 v) ∧ 0 ≤ v ∧ v < most ∧ Src w' g ao len cap ∧ w.grownBy w' (some g) := by
  obtain ⟨⟨c0, c1, c2, c3⟩, ⟨f0, f1, f2, f3⟩, hg⟩ := cells4 h
  have H : Hid (w.heap[g]? = some (.cells #[.slice ao len cap, .int .i64 (p : Int), .int .u64 mix, .int .i64 sz] 137 (0, 0))) := h
  clear h
  go_enter Try.func61, Try.ntmps61
  go_wp2
  go_region_held3 (fun w' => w'.cell? ⟨g, 0, none⟩ = some (.slice ao len cap) ∧ w'.cell? ⟨g, 1, none⟩ = some (.int .i64 (p : Int))) (go_keep) (fail)
  go_wp2
  have r1 := rng64 .xor mix (IntKind.u64.wrap (mix * 8192))
  generalize hm1 : bits .xor .u64 mix (IntKind.u64.wrap (mix * 8192)) = m1 at r1
  go_region
  go_wp2
  have r2 := rng64 .xor m1 (m1 / 128)
  generalize hm2' : bits .xor .u64 m1 (m1 / 128) = m2 at r2
  go_region
  go_wp2
  have r3 := rng64 .xor m2 (IntKind.u64.wrap (m2 * 131072))
  generalize hm3' : bits .xor .u64 m2 (IntKind.u64.wrap (m2 * 131072)) = m3 at r3
  obtain ⟨r30, r31⟩ := r3
  go_region
  have c2f := (cells4 (fin_heap m1 m2 m3 H.out)).1.2.2.1
  clear c0 c1 c2 c3 f0 f1 f2 f3
  go_wp2
  go_ret
  have hv := val_rng m3 most r30 r31 hm hm2
  exact ⟨_, rfl, hv.1, hv.2, src_drew (src_drew (src_drew (src_drew (fin_src m1 m2 m3 rfl (by omega) hz0 hz1 r30 r31 H.out)))), grown_drew (grown_drew (grown_drew (grown_drew (fin_grown m1 m2 m3 (grown_refl _ _)))))⟩

set_option maxRecDepth 100000 in
set_option maxHeartbeats 1000000 in
theorem n_more (g : Nat) (most : Int) (w : World) (hm : 1 < most) (hm2 : most ≤ 9223372036854775807) (b off len cap p : Nat) (c mix sz : Int) (hp : p < len) (hl : len ≤ 1048576) (hx0 : 0 ≤ mix) (hx1 : mix < 18446744073709551616) (hz0 : 0 ≤ sz) (hz1 : sz ≤ 12) (hc0 : 0 ≤ c) (hc1 : c ≤ 255)
    (hcc : w.cell? ⟨b, off + p, none⟩ = some (.int .u8 c))
    (h : w.heap[g]? = some (.cells #[.slice (some ⟨b, off, none⟩) len cap, .int .i64 (p : Int), .int .u64 mix, .int .i64 sz] 137 (0, 0))) :
    Calls Try.prog 61 #[.pointer (some ⟨g, 0, none⟩), .int .i64 most] w fun e w' => ∃ v, e = .returned (.int .i64 v) ∧ 0 ≤ v ∧ v < most ∧ Src w' g (some ⟨b, off, none⟩) len cap ∧ w.grownBy w' (some g) := by
  obtain ⟨⟨c0, c1, c2, c3⟩, ⟨f0, f1, f2, f3⟩, hg⟩ := cells4 h
  have H : Hid (w.heap[g]? = some (.cells #[.slice (some ⟨b, off, none⟩) len cap, .int .i64 (p : Int), .int .u64 mix, .int .i64 sz] 137 (0, 0))) := h
  clear h
  have hi0 : (0 : Int) ≤ (p : Int) := by omega
  have hwc : IntKind.u64.wrap c = c := by rw [IntKind.wrap_u64]; omega
  have hi1 : (p : Int) < (len : Int) := by omega
  go_enter Try.func61, Try.ntmps61
  go_wp2
  go_region_held3 (fun w' => w'.cell? ⟨g, 0, none⟩ = some (.slice (some ⟨b, off, none⟩) len cap) ∧ w'.cell? ⟨g, 1, none⟩ = some (.int .i64 (p : Int))) (go_keep) (fail)
  go_wp2
  go_region_held3 (fun w' => w'.cell? ⟨g, 0, none⟩ = some (.slice (some ⟨b, off, none⟩) len cap) ∧ w'.cell? ⟨g, 1, none⟩ = some (.int .i64 (p : Int)) ∧ w'.cell? ⟨b, off + p, none⟩ = some (.int .u8 c)) (go_keep) (fail)
  go_wp2
  have HW : Hid ((w.setCell ⟨g, 1, none⟩ (.int .i64 ((p : Int) + 1))).heap[g]? = some (.cells #[.slice (some ⟨b, off, none⟩) len cap, .int .i64 ((p : Int) + 1), .int .u64 mix, .int .i64 sz] 137 (0, 0))) := by
    show _ = _
    rw [set_heap H.out 1 _]; rfl
  have HG : Hid (w.grownBy (w.setCell ⟨g, 1, none⟩ (.int .i64 ((p : Int) + 1))) (some g)) := grown_set _ _ _ _
  obtain ⟨⟨d0, d1, d2, d3⟩, ⟨k0, k1, k2, k3⟩, hg'⟩ := cells4 HW.out
  generalize (w.setCell ⟨g, 1, none⟩ (.int .i64 ((p : Int) + 1))) = W at HW HG d0 d1 d2 d3 k0 k1 k2 k3 hg' ⊢
  clear c0 c1 c2 c3 f0 f1 f2 f3 hcc
  have r1 := rng64 .xor mix (IntKind.u64.wrap (mix * 8192))
  generalize hm1 : bits .xor .u64 mix (IntKind.u64.wrap (mix * 8192)) = m1 at r1
  go_region
  go_wp2
  have r2 := rng64 .xor m1 (m1 / 128)
  generalize hm2' : bits .xor .u64 m1 (m1 / 128) = m2 at r2
  go_region
  go_wp2
  have r3 := rng64 .xor m2 (IntKind.u64.wrap (m2 * 131072))
  generalize hm3' : bits .xor .u64 m2 (IntKind.u64.wrap (m2 * 131072)) = m3 at r3
  obtain ⟨r30, r31⟩ := r3
  go_region
  have c2f := (cells4 (fin_heap m1 m2 m3 HW.out)).1.2.2.1
  clear d0 d1 d2 d3 k0 k1 k2 k3
  go_wp2
  go_ret
  have hv := val_rng2 c m3 most hc0 hc1 r30 r31 hm hm2
  exact ⟨_, rfl, hv.1, hv.2, src_drew (src_drew (src_drew (src_drew (src_drew (fin_src m1 m2 m3 (p := p + 1) (by omega) (by omega) hz0 hz1 r30 r31 HW.out))))), grown_drew (grown_drew (grown_drew (grown_drew (grown_drew (fin_grown m1 m2 m3 HG.out)))))⟩

theorem n_any (g : Nat) (most : Int) (w : World) (hm : 1 < most) (hm2 : most ≤ 9223372036854775807) (ao : Option Addr) (len cap : Nat) (hs : Src w g ao len cap) (hc : Code w ao len) :
    Calls Try.prog 61 #[.pointer (some ⟨g, 0, none⟩), .int .i64 most] w fun e w' => ∃ v, e = .returned (.int .i64 v) ∧ 0 ≤ v ∧ v < most ∧ Src w' g ao len cap ∧ w.grownBy w' (some g) := by
  obtain ⟨p, mix, sz, hp, hx0, hx1, hz0, hz1, h⟩ := hs
  by_cases hlt : p < len
  · obtain ⟨b, off, c, rfl, hc0, hc1, hcc⟩ := hc.2 p hlt
    exact n_more g most w hm hm2 b off len cap p c mix sz hlt hc.1 hx0 hx1 hz0 hz1 hc0 hc1 hcc h
  · exact n_end g most w hm hm2 ao len cap p mix sz (by omega) hc.1 hx0 hx1 hz0 hz1 h
end Go.Proofs.Ytlphcbgeagmopaa.SrcR
