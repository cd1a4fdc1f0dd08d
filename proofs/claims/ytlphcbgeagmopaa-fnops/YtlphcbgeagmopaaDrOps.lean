/- Proves what the draw of ops leaves: spec's (*l01Src).l02Ops: at most eighteen ops of small texts, in a row of the call's own. -/
import Derived.Test.YtlphcbgeagmopaaDrOp
import Derived.Test.YtlphcbgeagmopaaOpY
import Derived.Deep.QuietTactic
import Derived.BigQuiet
namespace Go.Proofs.Ytlphcbgeagmopaa.OpR
open Go.ChangeShapes Go.WideShapes Go.ChangeAt Go.RowKit Go.ChangeMaps
open SrcR (Src)
set_option linter.unusedVariables false

/-- The texts of drawn ops are small. -/
def OpSz8 (l : List OpV) : Prop := ∀ o ∈ l, o.name.size ≤ 8000 ∧ o.value.size ≤ 8000
theorem OpSz8.snoc {l : List OpV} (h : OpSz8 l) {o : OpV} (h1 : o.name.size ≤ 8000) (h2 : o.value.size ≤ 8000) : OpSz8 (l ++ [o]) := fun y hy => by
  rcases List.mem_append.1 hy with h3 | h3
  · exact h y h3
  · rw [List.mem_singleton.1 h3]; exact ⟨h1, h2⟩
theorem Dg.step {w X : World} {g : Nat} {ao : Option Addr} {len cap : Nat} (h : Dg w g ao len) (hd : Dr w X g ao len cap) : Dg X g ao len :=
  ⟨h.code.grown hd.grown h.far, fun a e => ⟨Nat.lt_of_lt_of_le (h.far a e).1 hd.grown.size, (h.far a e).2⟩, Nat.lt_of_lt_of_le h.lt hd.grown.size⟩
theorem Dr.trans {w X Y : World} {g : Nat} {ao : Option Addr} {len cap : Nat} (h : Dr w X g ao len cap) (k : Dr X Y g ao len cap) : Dr w Y g ao len cap := ⟨k.src, grown_trans' h.grown k.grown⟩
theorem Dr.below {w X Y : World} {g : Nat} {ao : Option Addr} {len cap : Nat} (h : Dr w X g ao len cap) (hb : Below X.heap.size X Y) : Dr w Y g ao len cap :=
  ⟨h.src.block (hb.block g h.src.lt), grown_trans' h.grown (grown_below' hb)⟩
theorem OwnAt.call {X Y : World} {base g : Nat} {T : TypeId} {v : Value} {l : List OpV} (h : OwnAt X base T v l) (hg : X.grownBy Y (some g)) (hlt : g < base) : OwnAt Y base T v l :=
  ⟨h.1.kept hg (SrcR.row_ne h.1 hlt), h.2⟩
theorem OwnAt.anew {X : World} {base : Nat} {T : TypeId} {v : Value} {l : List OpV} (h : OwnAt X base T v l) (ob : Obj) : OwnAt (X.alloc ob) base T v l := ⟨h.1.alloc ob, h.2⟩
theorem Dr.grow {w X Y : World} {g : Nat} {ao : Option Addr} {len cap : Nat} {r : Option Nat} (h : Dr w X g ao len cap) (hg : X.grownBy Y r) (hr : ∀ j, r = some j → w.heap.size ≤ j) (hlt : g < w.heap.size) : Dr w Y g ao len cap := by
  have hne : some g ≠ r := fun e => absurd (hr g e.symm) (by omega)
  refine ⟨h.src.block (hg.block g h.src.lt hne), ⟨hg.os.trans h.grown.os, hg.tape.trans h.grown.tape, hg.output.trans h.grown.output, Nat.le_trans h.grown.size hg.size, fun i hi hin => ?_⟩⟩
  exact (hg.block i (Nat.lt_of_lt_of_le hi h.grown.size) (fun e => absurd (hr i e.symm) (by omega))).trans (h.grown.block i hi hin)
/-- A drawn op's own block. -/
structure OpBox (X : World) (B : Nat) (o : OpV) : Prop where
  lies : X.heap[B]? = some (.cells #[.int .i64 o.time, .int .i64 o.repl, .int .i64 o.kind, .int .i64 o.node, .int .i64 o.parent, .string o.name, .string o.value] 40 (0, 0))
theorem OpBox.below {X Y : World} {B : Nat} {o : OpV} (h : OpBox X B o) (hb : Below X.heap.size X Y) : OpBox Y B o :=
  ⟨(hb.block B (Array.getElem?_eq_some_iff.1 h.lies).1).trans h.lies⟩
theorem OpBox.call {X Y : World} {B g : Nat} {o : OpV} (h : OpBox X B o) (hg : X.grownBy Y (some g)) (hne : B ≠ g) : OpBox Y B o :=
  ⟨(hg.block B (Array.getElem?_eq_some_iff.1 h.lies).1 (fun e => hne (Option.some.inj e))).trans h.lies⟩
theorem OpBox.cells {X : World} {B : Nat} {o : OpV} (h : OpBox X B o) : X.cell? ⟨B, 0, none⟩ = some (.int .i64 o.time) ∧ X.cell? ⟨B, 1, none⟩ = some (.int .i64 o.repl) ∧ X.cell? ⟨B, 2, none⟩ = some (.int .i64 o.kind) ∧ X.cell? ⟨B, 3, none⟩ = some (.int .i64 o.node) ∧ X.cell? ⟨B, 4, none⟩ = some (.int .i64 o.parent) ∧ X.cell? ⟨B, 5, none⟩ = some (.string o.name) ∧ X.cell? ⟨B, 6, none⟩ = some (.string o.value) := by
  have e := h.lies
  refine ⟨?_, ?_, ?_, ?_, ?_, ?_, ?_⟩ <;> simp [World.cell?, e]
theorem one_ops' (w : World) (o : OpV) (T : TypeId) : OpsAt (w.alloc (.cells #[.int .i64 o.time, .int .i64 o.repl, .int .i64 o.kind, .int .i64 o.node, .int .i64 o.parent, .string o.name, .string o.value] T)) (some ⟨w.heap.size, 0, none⟩) [o] := by
  have h : OpsIn (w.alloc (.cells #[.int .i64 o.time, .int .i64 o.repl, .int .i64 o.kind, .int .i64 o.node, .int .i64 o.parent, .string o.name, .string o.value] T)) w.heap.size T [o] := heap_alloc_new w _
  exact h.opsAt
theorem drewN_b8 {B : Nat} {a b : World} (h : Below B a b) (n : Nat) : Below B a (b.drewN n) := ⟨h.os, h.tape, h.output, h.size, h.block⟩
theorem src_size {w : World} {g : Nat} {ao : Option Addr} {len cap : Nat} (h : Src w g ao len cap) : ∃ sz : Int, 0 ≤ sz ∧ sz ≤ 12 ∧ w.cell? ⟨g, 3, none⟩ = some (.int .i64 sz) := by
  obtain ⟨p, mix, sz, _, _, _, h0, h1, h2⟩ := h
  exact ⟨sz, h0, h1, by simp [World.cell?, h2]⟩
set_option maxRecDepth 100000 in
set_option maxHeartbeats 2000000 in
theorem drOps_any (g : Nat) (w : World) (ao : Option Addr) (len cap : Nat) (hs : Src w g ao len cap) (hg : Dg w g ao len) :
    Calls Try.prog 42 #[.pointer (some ⟨g, 0, none⟩)] w fun e w' => ∃ (v : Value) (l : List OpV), e = .returned v ∧ l.length ≤ 18 ∧ OpSz8 l ∧ OwnAt w' w.heap.size 40 v l ∧ Dr w w' g ao len cap := by
  have HG := Hid.mk hg
  have hg0 := hg.lt
  have h0 : Dr w w g ao len cap := ⟨hs, grown_below' (Below.refl _ _)⟩
  have hd1 := h0.alloc (.cells #[] 40)
  obtain ⟨sz, hz0, hz1, hz⟩ := src_size hd1.src
  have HD1 := Hid.mk hd1
  have HO0 : Hid (OwnAt (w.alloc (.cells #[] 40)) w.heap.size 40 (.slice (some ⟨w.heap.size, 0, none⟩) 0 0) []) := ⟨empty_row w, by simp⟩
  have hadd : IntKind.i64.wrap (6 + sz) = 6 + sz := by rw [IntKind.wrap_i64]; omega
  clear hs hg h0 hd1
  go_enter Try.func42, Try.ntmps42
  go_wp2_with (go_at_call 61; refine (n_dr HD1.out HG.out (by omega) (by omega)).mono ?_; rintro e x1 ⟨v1, rfl, hv1, hw1, hd2, hg2⟩; have HD2 := Hid.mk hd2; have HO2 := Hid.mk (HO0.out.call hg2 hg0); clear hd2 hg2)
  obtain ⟨m0, hm0⟩ : ∃ m0 : Nat, v1 = (m0 : Int) := ⟨v1.toNat, by omega⟩
  subst hm0
  clear HD1 HO0 hz
  go_loopw [3, 4] (fun vo k wr => ∃ (l : List OpV) (m : Nat), k = .int .i64 m ∧ l.length + m ≤ 18 ∧ OpSz8 l ∧ OwnAt wr w.heap.size 40 vo l ∧ Dr w wr g ao len cap) (fun _ k _ => (intOf k).toNat)
  case atStart => exact ⟨[], m0, rfl, by simp; omega, fun y hy => (by cases hy), HO2.out, HD2.out⟩
  case round =>
    obtain ⟨l, m, rfl, hlm, hls, hO, hD⟩ := hrel
    have HL := Hid.mk hls
    have HO := Hid.mk hO
    have HD := Hid.mk hD
    have hwr := hD.grown.size
    clear hls hO hD HD2 HO2
    by_cases h : 0 < m
    · have hm1 : (0 : Int) < (m : Int) := by omega
      go_wp2_with (go_at_call 65; refine (drOp_any g wr ao len cap HD.out.src (HG.out.step HD.out)).mono ?_; intro e x h; obtain ⟨o, he, hn8, hv8, hdx⟩ := h; unfold OpV.agg at he; subst he; have HDx := Hid.mk (HD.out.trans hdx); have HOx := Hid.mk (HO.out.call hdx.grown hg0); have hxs := hdx.grown.size; have HZ := Hid.mk (And.intro hn8 hv8); clear hn8 hv8 hdx HD HO)
      obtain ⟨gr, cap1, rfl, hgr1, hgr2, hcap, hcm, hat⟩ := HOx.out.at
      have hb2 : Below x.heap.size x (x.alloc (.cells #[.int .i64 o.time, .int .i64 o.repl, .int .i64 o.kind, .int .i64 o.node, .int .i64 o.parent, .string o.name, .string o.value] 40)) := (Below.refl _ _).alloc (Nat.le_refl _) _
      have hbox : OpBox (x.alloc (.cells #[.int .i64 o.time, .int .i64 o.repl, .int .i64 o.kind, .int .i64 o.node, .int .i64 o.parent, .string o.name, .string o.value] 40)) x.heap.size o := ⟨heap_alloc_new x _⟩
      have hXs : (x.alloc (.cells #[.int .i64 o.time, .int .i64 o.repl, .int .i64 o.kind, .int .i64 o.node, .int .i64 o.parent, .string o.name, .string o.value] 40)).heap.size = x.heap.size + 1 := by simp
      obtain ⟨X, hX⟩ : ∃ X, X = x.alloc (.cells #[.int .i64 o.time, .int .i64 o.repl, .int .i64 o.kind, .int .i64 o.node, .int .i64 o.parent, .string o.name, .string o.value] 40) := ⟨_, rfl⟩
      obtain ⟨B, hB⟩ : ∃ B, B = x.heap.size := ⟨_, rfl⟩
      rw [← hX] at hb2 hbox hXs ⊢
      have HO2 := Hid.mk (HOx.out.below hb2)
      have HD2 := Hid.mk (HDx.out.below hb2)
      have HA := Hid.mk (hat.stays hb2)
      rw [← hB] at hbox hXs hxs hgr2 ⊢
      have HB := Hid.mk hbox
      clear hX hB hb2 hbox hat HOx HDx
      go_loopw [6, 7] (fun q i wi => ∃ (k : Nat) (b : Bool), q = .bool b ∧ i = .int .i64 k ∧ k ≤ l.length ∧ Below X.heap.size X wi) (fun _ i _ => l.length - (intOf i).toNat)
      case atStart => exact ⟨0, false, rfl, rfl, by omega, Below.refl _ _⟩
      case round =>
        obtain ⟨k, b, rfl, rfl, hk, hbi⟩ := hrel
        obtain ⟨c0, c1, c2, c3, c4, c5, c6⟩ := (HB.out.below hbi).cells
        by_cases h' : k < l.length
        · have ho2 := HA.out.at0 h'
          obtain ⟨d0, d1, d2, d3, d4, d5, d6⟩ := ho2.block (w' := wr) (hbi.block gr (by omega))
          have hcall := stamp_any l[k] o wr.drew
          unfold OpV.agg at hcall
          have hk0 : (0 : Int) ≤ (k : Int) := by omega
          have hk1 : (k : Int) < (l.length : Int) := by omega
          clear ho2
          cases b
          · go_wp2
            go_region_with (go_at_call 59; refine hcall.mono ?_; rintro e w2 ⟨rfl, hb2⟩)
            all_goals (
              clear hcall c0 c1 c2 c3 c4 c5 c6 d0 d1 d2 d3 d4 d5 d6
              go_wp2
              go_roundw
              case rel => exact ⟨k + 1, stamp l[k] o, rfl, by go_num, by omega, hbi.drew.trans (hb2.mono hbi.size)⟩
              case measure => simp [intOf]; omega)
          · clear hcall
            go_wp2_with fail
            go_quiet (fail)
            all_goals (
              clear c0 c1 c2 c3 c4 c5 c6 d0 d1 d2 d3 d4 d5 d6
              go_wp2
              go_roundw
              case rel => exact ⟨k + 1, true, rfl, by go_num, by omega, drewN_b8 hbi _⟩
              case measure => simp [intOf]; omega)
        · obtain rfl : k = l.length := by omega
          have HO3 := Hid.mk (HO2.out.below hbi)
          have HD3 := Hid.mk (HD2.out.below hbi)
          have hws := hbi.size
          cases b
          · go_wp2_with (at_builtin; refine wpList_append_ops rfl _ _ rfl w.heap.size _ l rfl (HO3.out.1.alloc _) (some ⟨wr.heap.size, 0, none⟩) [o] 1 rfl (one_ops' wr o 40) (by simp; omega) (by simp; omega) ?_)
            intro v9 w9 hown9 hgr9 hne9
            have HO9 : Hid (OwnAt w9 w.heap.size 40 v9 (l ++ [o])) := ⟨by rw [List.length_append]; exact hown9, by first | exact hne9 | exact fun e => by have := hne9.1 e; simp at this⟩
            have HD9 := Hid.mk ((HD3.out.alloc (.cells #[.int .i64 o.time, .int .i64 o.repl, .int .i64 o.kind, .int .i64 o.node, .int .i64 o.parent, .string o.name, .string o.value] 40)).grow hgr9 (fun j hj => by simp [Value.ownBlock] at hj; omega) hg0)
            clear hown9 hgr9 hne9 c0 c1 c2 c3 c4 c5 c6
            go_wp2
            go_roundw
            case rel => exact ⟨l ++ [o], m - 1, by go_num, by rw [List.length_append]; show _ + 1 + _ ≤ 18; omega, HL.out.snoc HZ.out.1 HZ.out.2, HO9.out, HD9.out⟩
            case measure => simp [intOf]; omega
          · go_wp2_with fail
            refine (one_dr HD3.out HG.out (by omega) (by omega)).mono ?_
            rintro e y ⟨b4, rfl, hdy, hgy⟩
            have HO4 := Hid.mk (HO3.out.call hgy hg0)
            have hys := hgy.size
            have HB4 := Hid.mk ((HB.out.below hbi).call hgy (by omega))
            have HD4 := Hid.mk hdy
            clear hdy hgy c0 c1 c2 c3 c4 c5 c6 HO3 HD3
            have HO3 := HO4
            have HD3 := HD4
            clear HO4 HD4
            cases b4
            · go_wp2
              go_roundw
              case rel => exact ⟨l, m - 1, by go_num, by omega, HL.out, HO3.out, HD3.out⟩
              case measure => simp [intOf]; omega
            · obtain ⟨c0, c1, c2, c3, c4, c5, c6⟩ := HB4.out.cells
              go_wp2_with (at_builtin; refine wpList_append_ops rfl _ _ rfl w.heap.size _ l rfl (HO3.out.1.alloc _) (some ⟨y.heap.size, 0, none⟩) [o] 1 rfl (one_ops' y o 40) (by simp; omega) (by simp; omega) ?_)
              intro v9 w9 hown9 hgr9 hne9
              have HO9 : Hid (OwnAt w9 w.heap.size 40 v9 (l ++ [o])) := ⟨by rw [List.length_append]; exact hown9, by first | exact hne9 | exact fun e => by have := hne9.1 e; simp at this⟩
              have HD9 := Hid.mk ((HD3.out.alloc (.cells #[.int .i64 o.time, .int .i64 o.repl, .int .i64 o.kind, .int .i64 o.node, .int .i64 o.parent, .string o.name, .string o.value] 40)).grow hgr9 (fun j hj => by simp [Value.ownBlock] at hj; omega) hg0)
              clear hown9 hgr9 hne9 c0 c1 c2 c3 c4 c5 c6
              go_wp2
              go_roundw
              case rel => exact ⟨l ++ [o], m - 1, by go_num, by rw [List.length_append]; show _ + 1 + _ ≤ 18; omega, HL.out.snoc HZ.out.1 HZ.out.2, HO9.out, HD9.out⟩
              case measure => simp [intOf]; omega
    · obtain rfl : m = 0 := by omega
      go_wp2
      go_ret
      exact ⟨_, l, rfl, by omega, HL.out, HO.out, HD.out⟩
end Go.Proofs.Ytlphcbgeagmopaa.OpR
