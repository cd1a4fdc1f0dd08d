/- Proves what the makers of a source, and the draws of texts and numbers, answer. -/
import Derived.Test.YtlphcbgeagmopaaSrcW
namespace Go.Proofs.Ytlphcbgeagmopaa.SrcR
open Go.ChangeShapes Go.WideShapes Go.ChangeAt Go.RowKit Go.ChangeMaps
set_option linter.unusedVariables false

theorem Code.below {B : Nat} {w w' : World} {ao : Option Addr} {len : Nat} (h : Code w ao len) (hb : Below B w w') (hB : ∀ a, ao = some a → a.block < B) : Code w' ao len :=
  ⟨h.1, fun j hj => by
    obtain ⟨b, off, c, e, h0, h1, hc⟩ := h.2 j hj
    exact ⟨b, off, c, e, h0, h1, (hb.cell (p := ⟨b, off + j, none⟩) (show b < B from hB ⟨b, off, none⟩ e)).trans hc⟩⟩

set_option maxRecDepth 100000 in
set_option maxHeartbeats 1000000 in
theorem source_any (w : World) (ao : Option Addr) (len cap : Nat) (hc : Code w ao len) (hB : ∀ a, ao = some a → a.block < w.heap.size) :
    Calls Try.prog 40 #[.slice ao len cap] w fun e w' => e = .returned (.pointer (some ⟨w.heap.size, 0, none⟩)) ∧ Src w' w.heap.size ao len cap ∧ Below w.heap.size w w' := by
  have hl := hc.1
  have HC : Hid (Code w ao len) := hc
  clear hc
  go_enter Try.func40, Try.ntmps40
  go_wp2
  go_loopw [4] (fun i wr => ∃ (k : Nat) (mix : Int), k ≤ len ∧ k ≤ 64 ∧ i = .int .i64 k ∧ 0 ≤ mix ∧ mix < 18446744073709551616 ∧ wr.heap[w.heap.size]? = some (.cells #[.slice ao len cap, .int .i64 0, .int .u64 mix, .int .i64 0] 137 (0, 0)) ∧ Below w.heap.size w wr) (fun i _ => 64 - (intOf i).toNat)
  case atStart => exact ⟨0, 88172645463325252, by omega, by omega, rfl, by omega, by omega, heap_alloc_new w _, (Below.refl _ _).alloc (Nat.le_refl _) _⟩
  case round =>
    obtain ⟨k, mix, hk, hk64, rfl, hx0, hx1, hh, hb⟩ := hrel
    have H : Hid (wr.heap[w.heap.size]? = some (.cells #[.slice ao len cap, .int .i64 0, .int .u64 mix, .int .i64 0] 137 (0, 0))) := hh
    obtain ⟨⟨c0, c1, c2, c3⟩, ⟨f0, f1, f2, f3⟩, hg⟩ := cells4 hh
    clear hh
    by_cases hlt : k < len ∧ k < 64
    · obtain ⟨h1, h2⟩ := hlt
      obtain ⟨b, off, c, rfl, hc0, hc1, hcc0⟩ := HC.out.2 k h1
      have hcc : wr.cell? ⟨b, off + k, none⟩ = some (.int .u8 c) := (hb.cell (p := ⟨b, off + k, none⟩) (show b < _ from hB ⟨b, off, none⟩ rfl)).trans hcc0
      have hwc : IntKind.u64.wrap c = c := by rw [IntKind.wrap_u64]; omega
      have hi0 : (0 : Int) ≤ (k : Int) := by omega
      have hi1 : (k : Int) < (len : Int) := by omega
      clear hcc0 c0 c1 c3
      go_wp2
      go_region
      go_wp2
      go_roundw
      case rel =>
        refine ⟨k + 1, IntKind.u64.wrap (bits .xor .u64 mix c * 1099511628211), by omega, by omega, by go_num, by rw [IntKind.wrap_u64]; omega, by rw [IntKind.wrap_u64]; omega, ?_, (hb.setCell (Nat.le_refl _) _).drew⟩
        show (wr.setCell _ _).heap[w.heap.size]? = _
        rw [set_heap H.out 2 _]; rfl
      case measure => simp [intOf]; omega
    · have hq0 : (0 : Int) ≤ (len : Int) / 20 := by omega
      by_cases h1 : k < len
      · obtain rfl : k = 64 := by omega
        clear hlt
        by_cases h12 : 12 < (len : Int) / 20
        · go_wp2
          go_ret
          refine ⟨rfl, ⟨0, mix, 12, by omega, hx0, hx1, by omega, by omega, ?_⟩, ((hb.setCell (Nat.le_refl _) _).setCell (Nat.le_refl _) _)⟩
          rw [set_heap (set_heap H.out 3 _) 3 _]; rfl
        · go_wp2
          go_ret
          refine ⟨rfl, ⟨0, mix, (len : Int) / 20, by omega, hx0, hx1, by omega, by omega, ?_⟩, (hb.setCell (Nat.le_refl _) _)⟩
          rw [set_heap H.out 3 _]; rfl
      · clear hlt
        by_cases h12 : 12 < (len : Int) / 20
        · exfalso; omega
        · go_wp2
          go_ret
          refine ⟨rfl, ⟨0, mix, (len : Int) / 20, by omega, hx0, hx1, by omega, by omega, ?_⟩, (hb.setCell (Nat.le_refl _) _)⟩
          rw [set_heap H.out 3 _]; rfl

set_option maxRecDepth 100000 in
set_option maxHeartbeats 400000 in
theorem one_any (g : Nat) (most : Int) (w : World) (hm : 1 < most) (hm2 : most ≤ 9223372036854775807) (ao : Option Addr) (len cap : Nat) (hs : Src w g ao len cap) (hc : Code w ao len) :
    Calls Try.prog 43 #[.pointer (some ⟨g, 0, none⟩), .int .i64 most] w fun e w' => ∃ v : Int, e = .returned (.bool (v == 0)) ∧ Src w' g ao len cap ∧ w.grownBy w' (some g) := by
  have hn := n_any g most w hm hm2 ao len cap hs hc
  clear hs hc
  go_enter Try.func43, Try.ntmps43
  go_wp2_with (first | (go_at_call 61; refine hn.mono ?_; rintro e w1 ⟨v, rfl, hv0, hv1, hs1, hg1⟩))
  go_ret
  exact ⟨v, rfl, hs1, hg1⟩

theorem Code.grown {w w' : World} {ao : Option Addr} {len g : Nat} (h : Code w ao len) (hb : w.grownBy w' (some g)) (hB : ∀ a, ao = some a → a.block < w.heap.size ∧ a.block ≠ g) : Code w' ao len :=
  ⟨h.1, fun j hj => by
    obtain ⟨b, off, c, e, h0, h1, hc⟩ := h.2 j hj
    have hB' : b < w.heap.size ∧ b ≠ g := hB ⟨b, off, none⟩ e
    refine ⟨b, off, c, e, h0, h1, (World.cell?_of_block (w := w) (a := ⟨b, off + j, none⟩) (hb.block b hB'.1 (fun e => hB'.2 (Option.some.inj e)))).trans hc⟩⟩
theorem Src.block {w w' : World} {g : Nat} {ao : Option Addr} {len cap : Nat} (h : Src w g ao len cap) (e : w'.heap[g]? = w.heap[g]?) : Src w' g ao len cap := by
  obtain ⟨p, mix, sz, h1, h2, h3, h4, h5, h6⟩ := h
  exact ⟨p, mix, sz, h1, h2, h3, h4, h5, e.trans h6⟩
theorem grown_own {a b c : World} {o : Obj} {row : Option Nat} {g : Nat} (h : a.grownBy b (some g)) (k : (b.alloc o).grownBy c row) (hr : ∀ j, row = some j → a.heap.size ≤ j) : a.grownBy c (some g) := by
  have h2 := World.grownBy_alloc b o (some g)
  have h3 := grown_trans h h2
  refine ⟨k.os.trans h3.os, k.tape.trans h3.tape, k.output.trans h3.output, Nat.le_trans h3.size k.size, fun j hj hne => ?_⟩
  exact (k.block j (Nat.lt_of_lt_of_le hj h3.size) (fun e => by have := hr j e.symm; omega)).trans (h3.block j hj hne)
theorem Src.lt {w : World} {g : Nat} {ao : Option Addr} {len cap : Nat} (h : Src w g ao len cap) : g < w.heap.size := by
  obtain ⟨p, mix, sz, h1, h2, h3, h4, h5, h6⟩ := h
  exact (Array.getElem?_eq_some_iff.1 h6).1
def cellsOf (l : List UInt8) : List Value := l.map fun b => .int .u8 (b.toNat : Int)
theorem cellsOf_snoc (l : List UInt8) (b : UInt8) : cellsOf (l ++ [b]) = cellsOf l ++ [.int .u8 (b.toNat : Int)] := by simp [cellsOf]
theorem with_cells {w : World} {base : Nat} {e : TypeId} {size : Nat} {v : Value} {n : Nat} {xs ys : List Value} (h : w.ownsRow base e size v n xs) (hy : ys = xs) : w.ownsRow base e size v n ys := hy ▸ h
theorem info8 : (Try.prog.info? 5).map (fun i => (i.zero, i.size, i.bytes)) = some (some (.int .u8 0), 1, 1) := by kernel_rfl
theorem conv_nil (w1 : World) : (convert 22 9 (.slice none 0 0)).run Try.prog w1 = .ok (.string ⟨#[]⟩) w1 := by
  rw [run_convert_bytes_string w1 22 9 5 none 0 0 Try.underlying22 Try.underlying5 Try.underlying9]
  rfl
theorem row_ne {wr : World} {base : Nat} {e : TypeId} {size : Nat} {v : Value} {n g : Nat} {xs : List Value} (h : wr.ownsRow base e size v n xs) (hg : g < base) : v.ownBlock = none ∨ v.ownBlock ≠ some g := by
  refine .inr fun e => ?_
  have := (h.lt g e).1
  omega
theorem conv_own {w1 : World} {base : Nat} {v : Value} {n : Nat} {l : List UInt8} (h : w1.ownsRow base 5 1 v n (cellsOf l)) (hn : l.length = n) :
    (convert 22 9 v).run Try.prog w1 = .ok (.string ⟨l.toArray⟩) w1 := by
  subst hn
  have h0 := h
  rcases h0.2 with ⟨rfl, e0⟩ | ⟨g, cap, cur, rfl, _⟩
  · obtain rfl : l = [] := List.length_eq_zero_iff.1 e0
    exact conv_nil w1
  · refine run_convert_bytes_back (P := Try.prog) w1 22 9 5 ⟨g, 0, none⟩ cap l Try.underlying22 Try.underlying5 Try.underlying9 fun j hj => ?_
    exact h.cells rfl j _ (by simp [cellsOf, hj])
theorem byteI {c : Int} (h0 : 0 ≤ c) (h1 : c < 256) : ((UInt8.ofNat c.toNat).toNat : Int) = c := by
  rw [UInt8.toNat_ofNat', Nat.mod_eq_of_lt (by omega)]; omega

end Go.Proofs.Ytlphcbgeagmopaa.SrcR
