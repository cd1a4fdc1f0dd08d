/- Proves that the law FnExactLogAdd's walk returns true. -/
import Derived.Test.YtbahpaihblelmaeILog
import Derived.Test.YtbahpaihblelmaeOutW
import Derived.Test.YtbahpaihblelmaeSzW
import Derived.Test.YtbahpaihblelmaeCameOp
namespace Go.Proofs.Ytbahpaihblelmae.OpR
open Go.ChangeShapes Go.WideShapes Go.ChangeAt Go.RowKit
set_option linter.unusedVariables false

/-- An answer of ops in a variable: its three cells, and what lies in its row. -/
structure Ans (W : World) (V : Nat) (a : Option Addr) (c n : Nat) (many code : Int) (L : List OpV) : Prop where
  lies : W.heap[V]? = some (.cells #[.slice a n c, .int .i64 many, .int .i64 code] 24 (0, 0))
  row : OpsAt W a L
  low : ∀ x, a = some x → x.block < V
theorem Ans.lt {W : World} {V : Nat} {a : Option Addr} {c n : Nat} {many code : Int} {L : List OpV} (h : Ans W V a c n many code L) : V < W.heap.size := (Array.getElem?_eq_some_iff.1 h.lies).1
theorem Ans.below {W W' : World} {V : Nat} {a : Option Addr} {c n : Nat} {many code : Int} {L : List OpV} (h : Ans W V a c n many code L) (hb : Below W.heap.size W W') : Ans W' V a c n many code L :=
  ⟨(hb.block V h.lt).trans h.lies, h.row.stays hb, h.low⟩
theorem Ans.new (w : World) (a : Option Addr) (c n : Nat) (many code : Int) (L : List OpV) (h : OpsAt w a L) (hl : ∀ x, a = some x → x.block < w.heap.size) : Ans (w.alloc (.cells #[.slice a n c, .int .i64 many, .int .i64 code] 24)) w.heap.size a c n many code L :=
  ⟨heap_alloc_new w _, h.stays ((Below.refl _ _).alloc (Nat.le_refl _) _), hl⟩
theorem Ans.grown {W W' : World} {V : Nat} {a : Option Addr} {c n : Nat} {many code : Int} {L : List OpV} (h : Ans W V a c n many code L) {row : Option Nat} (hg : W.grownBy W' row) (hV : row ≠ some V) (hr : ∀ x, a = some x → row ≠ some x.block) : Ans W' V a c n many code L :=
  ⟨(hg.block V h.lt (fun e => hV e.symm)).trans h.lies, fun j hj => by
    obtain ⟨b, off, e, hlt, ho⟩ := h.row j hj
    exact ⟨b, off, e, Nat.lt_of_lt_of_le hlt hg.size, ho.block (hg.block b hlt (fun e2 => hr _ e e2.symm))⟩, h.low⟩
theorem Ans.marked {W W' : World} {V : Nat} {a : Option Addr} {c n : Nat} {many code : Int} {L M : List OpV} (h : Ans W V a c n many code L) {row : Option Nat} (hg : W.grownBy W' row) (hV : row ≠ some V) (hM : OpsAt W' a M) : Ans W' V a c n many code M :=
  ⟨(hg.block V h.lt (fun e => hV e.symm)).trans h.lies, hM, h.low⟩
theorem Ans.cells {W : World} {V : Nat} {a : Option Addr} {c n : Nat} {many code : Int} {L : List OpV} (h : Ans W V a c n many code L) : W.cell? ⟨V, 0, none⟩ = some (.slice a n c) ∧ W.cell? ⟨V, 1, none⟩ = some (.int .i64 many) ∧ W.cell? ⟨V, 2, none⟩ = some (.int .i64 code) := by
  have e := h.lies
  refine ⟨?_, ?_, ?_⟩ <;> simp [World.cell?, e]
theorem OpsIn.rowB {w : World} {g : Nat} {T : TypeId} {l : List OpV} (h : OpsIn w g T l) : RowB w g T (l.length * 7) := ⟨opsArr l, h, opsArr_size l⟩
theorem OpsIn.grown {w w' : World} {g : Nat} {T : TypeId} {l : List OpV} (h : OpsIn w g T l) {row : Option Nat} (hg : w.grownBy w' row) (hne : row ≠ some g) : OpsIn w' g T l := h.block (hg.block g h.lt (fun e => hne e.symm))
theorem MarkOk.grown {w w' : World} {ag : Option Addr} {n : Nat} (h : MarkOk w ag n) {row : Option Nat} (hg : w.grownBy w' row) (hr : ∀ x, ag = some x → row ≠ some x.block) : MarkOk w' ag n := by
  rcases h with ⟨g, rfl, cs, e, hn⟩ | h
  · refine .inl ⟨g, rfl, cs, ?_, hn⟩
    have hlt : g < w.heap.size := (Array.getElem?_eq_some_iff.1 e).1
    exact (hg.block g hlt (fun e2 => hr _ rfl e2.symm)).trans e
  · exact .inr h
theorem res_len (l m : List OpV) : (logRes l m).1.length ≤ 150 := by
  unfold logRes
  split
  · simp
  · split
    · unfold addRes
      split
      · simp
      · split
        · simp
        · show _ ≤ 150; rename_i h; exact Nat.le_of_not_lt h
    · simp
theorem row_ne {a b : Nat} (h : a ≠ b) : (some a : Option Nat) ≠ some b := fun e => h (by cases e; rfl)
theorem map_ne {a : Option Addr} {V : Nat} (h : ∀ x, a = some x → x.block ≠ V) : a.map (·.block) ≠ some V := by
  cases a with
  | none => simp
  | some x => simpa using h x rfl
/-- What impl tells, as a slice. -/
theorem out_at {w w' : World} {r : List OpV × Int × Int} {v : Value} (h : (∃ g, v = .slice (some ⟨g, 0, none⟩) r.1.length r.1.length ∧ w.heap.size ≤ g ∧ OpsIn w' g 63 r.1) ∨ (v = .slice none 0 0 ∧ r.1 = [])) :
    ∃ a, v = .slice a r.1.length r.1.length ∧ OpsAt w' a r.1 ∧ MarkOk w' a r.1.length ∧ (∀ x, a = some x → w.heap.size ≤ x.block ∧ x.block < w'.heap.size) := by
  rcases h with ⟨g, rfl, hg, h⟩ | ⟨rfl, hr⟩
  · exact ⟨_, rfl, h.opsAt, .inl ⟨g, rfl, h.rowB⟩, fun x e => by cases e; exact ⟨hg, h.lt⟩⟩
  · exact ⟨none, by rw [hr]; rfl, by rw [hr]; exact fun j hj => absurd hj (by simp), .inr ⟨rfl, by rw [hr]; rfl⟩, fun x e => by cases e⟩
theorem OpsOf.lt {w : World} {base : Nat} {T : TypeId} {l : List OpV} {a : Option Addr} {n c : Nat} (h : OpsOf w base T (.slice a n c) l) : ∀ x, a = some x → x.block < w.heap.size := by
  rcases h with h | ⟨e, _⟩
  · obtain ⟨g, cap, e, _, hlt, _⟩ := h.at
    intro x hx
    simp only [Value.slice.injEq] at e
    rw [e.1] at hx
    cases hx
    exact hlt
  · intro x hx
    simp only [Value.slice.injEq] at e
    rw [e.1] at hx
    cases hx

set_option maxRecDepth 100000 in
set_option maxHeartbeats 1000000 in
theorem law_logAdd (w : World) (ao : Option Addr) (cap : Nat) (l : List OpV) (ao2 : Option Addr) (cap2 : Nat) (m : List OpV) (hC : CameOps w ao l) (hC2 : CameOps w ao2 m) :
    Calls Try.prog 4 #[.slice ao l.length cap, .slice ao2 m.length cap2] w fun e w' => e = .returned (.bool true) ∧ Below w.heap.size w w' := by
  obtain ⟨hl, hA, hS, _⟩ := hC
  obtain ⟨hm, hB, hT, _⟩ := hC2
  have hsz := szOpS_left 1048576 l ao cap w (by omega) (by omega) hl hA hS
  have hsz2 := fun L h0 h1 W (hW : Below w.heap.size w W) => szOpS_left L m ao2 cap2 W h0 h1 hm (hB.stays hW) hT
  have HA : Hid (OpsAt w ao l) := ⟨hA⟩
  have HB : Hid (OpsAt w ao2 m) := ⟨hB⟩
  have HS : Hid (Sized l) := ⟨hS⟩
  have HT : Hid (Sized m) := ⟨hT⟩
  have HLl : Hid (l.length ≤ maxLen) := ⟨hl⟩
  have HLm : Hid (m.length ≤ maxLen) := ⟨hm⟩
  unfold maxLen at hl hm
  have m1 : Hid True := ⟨trivial⟩
  have m2 : Hid True := ⟨trivial⟩
  clear hA hS hB hT
  obtain ⟨r, hr⟩ : ∃ r, r = logRes l m := ⟨_, rfl⟩
  have HR : Hid (r = logRes l m) := ⟨hr⟩
  clear hr
  go_enter Try.func4, Try.ntmps4
  go_wp2_with (first | (go_at_call 12; clear m1; refine hsz.mono ?_; rintro e w1 ⟨z1, rfl, hz1, hq1, hb1⟩; have Hq1 := Hid.mk hq1; clear hq1 hsz) | (go_at_call 12; clear m2; refine (hsz2 z1 (by omega) (by omega) _ hb1).mono ?_; rintro e w2 ⟨z2, rfl, hz2, hq2, hb2⟩; have hB2 := hb1.trans (hb2.mono hb1.size); have Hq2 := Hid.mk hq2; clear hq2 hsz2))
  · go_ret
    exact ⟨rfl, hb1⟩
  · go_ret
    exact ⟨rfl, hB2⟩
  · have Hl2 := Hid.mk (Hq1.out (by omega)).1
    have Hm2 := Hid.mk (Hq2.out (by omega)).1
    clear Hq1 Hq2
    have T1 : Hid True := ⟨trivial⟩
    have T2 : Hid True := ⟨trivial⟩
    have T3 : Hid True := ⟨trivial⟩
    have T4 : Hid True := ⟨trivial⟩
    have T5 : Hid True := ⟨trivial⟩
    have T6 : Hid True := ⟨trivial⟩
    have T7 : Hid True := ⟨trivial⟩
    have T8 : Hid True := ⟨trivial⟩
    have I1 : Hid True := ⟨trivial⟩
    have E1 : Hid True := ⟨trivial⟩
    have E2 : Hid True := ⟨trivial⟩
    have Q1 : Hid True := ⟨trivial⟩
    have M1 : Hid True := ⟨trivial⟩
    have Hh1 : Hid True := ⟨trivial⟩
    have HLq : Hid (r.1.length ≤ 1048576) := ⟨by rw [HR.out]; have := res_len l m; omega⟩
    have HLr : Hid (r.1.length ≤ maxLen) := ⟨by rw [HR.out]; have := res_len l m; unfold maxLen; omega⟩
    go_wp2_with (first | (go_at_call 14; clear T1; refine (toOpS_any l ao cap w2 Hl2.out (HA.out.stays hB2)).mono ?_; rintro e w3 ⟨rfl, hxw3, hbw3⟩; have hB3 := hB2.trans (hbw3.mono hB2.size); have HX3 := Hid.mk hxw3; clear hxw3) | (go_at_call 14; clear T2; refine (toOpS_any m ao2 cap2 w3 Hm2.out (HB.out.stays hB3)).mono ?_; rintro e w4 ⟨rfl, hxw4, hbw4⟩; have hB4 := hB3.trans (hbw4.mono hB3.size); have HX4 := Hid.mk hxw4; clear hxw4; have h5 := sLog_any l m _ _ l.length m.length w4 HLl.out HLm.out (HX3.out.stays hbw4).opsAt HX4.out.opsAt HS.out HT.out; rw [← HR.out] at h5; have H5 := Hid.mk h5; clear h5) | (go_at_call 13; refine H5.out.mono ?_; rintro e w5 ⟨v5, rfl, ho5, hb5⟩; have hB5 := hB4.trans (hb5.mono hB4.size); obtain ⟨aw, cw, rfl, hcw, haw⟩ := ho5.at; have HW := Hid.mk (Ans.new w5 aw cw r.1.length r.2.1 r.2.2 r.1 haw ho5.lt); clear H5 ho5 haw hcw HX3 HX4) | (go_at_call 14; clear T3; refine (toOpS_any l ao cap (w5.alloc (.cells #[.slice aw r.1.length cw, .int .i64 r.2.1, .int .i64 r.2.2] 24)) Hl2.out (HA.out.stays (hB5.alloc hB5.size _))).mono ?_; rintro e w6 ⟨rfl, hxw6, hbw6⟩; have hB6 := (hB5.alloc hB5.size _).trans (hbw6.mono (by have := hB5.size; simp <;> omega)); have HX0 := Hid.mk hxw6; have HW := Hid.mk (HW.out.below hbw6); have ex0 : ((w5.alloc (.cells #[.slice aw r.1.length cw, .int .i64 r.2.1, .int .i64 r.2.2] 24))).heap.size = w5.heap.size + 1 := (by simp); rw [ex0] at HX0; have q1 := HX0.out.lt; clear hxw6 ex0) | (go_at_call 14; clear T4; refine (toOpS_any m ao2 cap2 w6 Hm2.out (HB.out.stays hB6)).mono ?_; rintro e w7 ⟨rfl, hxw7, hbw7⟩; have hB7 := hB6.trans (hbw7.mono hB6.size); have HX1 := Hid.mk hxw7; have q2 := HX1.out.lt; have HX0 := Hid.mk (HX0.out.stays hbw7); have HW := Hid.mk (HW.out.below hbw7); clear hxw7; have h8 := iLogAdd_any l m _ _ l.length m.length w7 HLl.out HLm.out (Nat.le_refl _) (Nat.le_refl _) HX0.out.opsAt HX1.out.opsAt HS.out HT.out; rw [← HR.out] at h8; have H8 := Hid.mk h8; clear h8) | (go_at_call 15; clear I1; refine H8.out.mono ?_; rintro e w8 ⟨v8, rfl, ho8, hb8⟩; have hB8 := hB7.trans (hb8.mono hB7.size); obtain ⟨ag, rfl, hag, hmk, hlow⟩ := out_at ho8; have HX0 := Hid.mk (HX0.out.stays hb8); have HX1 := Hid.mk (HX1.out.stays hb8); have HW := Hid.mk (HW.out.below hb8); have HG := Hid.mk (Ans.new w8 ag r.1.length r.1.length r.2.1 r.2.2 r.1 hag (fun x e => (hlow x e).2)); have HMk := Hid.mk hmk; have HLow := Hid.mk (fun x (e : ag = some x) => (hlow x e).1); obtain ⟨p0, p1, p2⟩ := HW.out.cells; have hpl := HW.out.lt; have q3 := hb8.size; clear H8 ho8 hag hmk hlow) | (go_at_call 9; clear E1; have hab : Below w8.heap.size w8 (w8.alloc (.cells #[.slice ag r.1.length r.1.length, .int .i64 r.2.1, .int .i64 r.2.2] 24)) := (Below.refl _ _).alloc (Nat.le_refl _) _; refine (eqOut_same r.1 r.2.1 r.2.2 ag aw r.1.length cw (w8.alloc (.cells #[.slice ag r.1.length r.1.length, .int .i64 r.2.1, .int .i64 r.2.2] 24)) HLr.out HG.out.row (HW.out.below hab).row).mono ?_; rintro e w9 ⟨rfl, hb9⟩; have hab9 : Below w8.heap.size w8 w9 := hab.trans (hb9.mono (by simp)); have hB9 := hB8.trans (hab9.mono hB8.size); have HX0 := Hid.mk (HX0.out.stays hab9); have HX1 := Hid.mk (HX1.out.stays hab9); have HW := Hid.mk (HW.out.below hab9); have HG := Hid.mk (HG.out.below hb9); have HMk := Hid.mk (HMk.out.below hab9); clear p0 p1 p2 hpl hab) | (go_at_call 14; clear T5; refine (toOpS_any l ao cap w9 Hl2.out (HA.out.stays hB9)).mono ?_; rintro e w10 ⟨rfl, hx10, hb10⟩; have hB10 := hB9.trans (hb10.mono hB9.size); have HX0 := Hid.mk (HX0.out.stays hb10); have HX1 := Hid.mk (HX1.out.stays hb10); have HW := Hid.mk (HW.out.below hb10); have HG := Hid.mk (HG.out.below hb10); have HMk := Hid.mk (HMk.out.below hb10); have h11 := eqOpS_same l (some ⟨w5.heap.size + 1, 0, none⟩) (some ⟨w9.heap.size, 0, none⟩) l.length l.length w10 HLl.out HX0.out.opsAt hx10.opsAt; have H11 := Hid.mk h11; clear h11 hx10) | (go_at_call 16; clear Q1; refine H11.out.mono ?_; rintro e w11 ⟨rfl, hb11⟩; have hB11 := hB10.trans (hb11.mono hB10.size); have HX0 := Hid.mk (HX0.out.stays hb11); have HX1 := Hid.mk (HX1.out.stays hb11); have HW := Hid.mk (HW.out.below hb11); have HG := Hid.mk (HG.out.below hb11); have HMk := Hid.mk (HMk.out.below hb11); clear H11) | (go_at_call 14; clear T6; refine (toOpS_any m ao2 cap2 w11 Hm2.out (HB.out.stays hB11)).mono ?_; rintro e w12 ⟨rfl, hx12, hb12⟩; have hB12 := hB11.trans (hb12.mono hB11.size); have HX0 := Hid.mk (HX0.out.stays hb12); have HX1 := Hid.mk (HX1.out.stays hb12); have HW := Hid.mk (HW.out.below hb12); have HG := Hid.mk (HG.out.below hb12); have HMk := Hid.mk (HMk.out.below hb12); have h13 := eqOpS_same m (some ⟨w6.heap.size, 0, none⟩) (some ⟨w11.heap.size, 0, none⟩) m.length m.length w12 HLm.out HX1.out.opsAt hx12.opsAt; have H13 := Hid.mk h13; clear h13 hx12) | (go_at_call 16; refine H13.out.mono ?_; rintro e w13 ⟨rfl, hb13⟩; have hB13 := hB12.trans (hb13.mono hB12.size); have HX0 := Hid.mk (HX0.out.stays hb13); have HX1 := Hid.mk (HX1.out.stays hb13); have HW := Hid.mk (HW.out.below hb13); have HG := Hid.mk (HG.out.below hb13); have HMk := Hid.mk (HMk.out.below hb13); have h14 := mark_any (some ⟨w5.heap.size + 1, 0, none⟩) l.length l.length 1 w13 Hl2.out (by omega) (by omega) (.inl ⟨_, rfl, HX0.out.rowB⟩); obtain ⟨K, hK⟩ : ∃ K : Nat, K = 1 + 7 * l.length := ⟨_, rfl⟩; rw [← hK, show ((1 : Nat) : Int) = 1 from rfl] at h14; have H14 := Hid.mk h14; have HK := Hid.mk hK; clear h14 hK H13) | (go_at_call 17; clear M1; refine H14.out.mono ?_; rintro e w14 ⟨rfl, _, _, hg14'⟩; have hg14 : w13.grownBy w14 (some (w5.heap.size + 1)) := hg14'; have hs8 := hB5.size; have hB14 := hB13.grown hg14 hB13.size (fun j hj => by cases hj; omega); have HX1 := Hid.mk (HX1.out.grown hg14 (row_ne (by omega))); have HW := Hid.mk (HW.out.grown hg14 (row_ne (by omega)) (fun x e => row_ne (by have := HW.out.low x e; omega))); have HG := Hid.mk (HG.out.grown hg14 (row_ne (by omega)) (fun x e => row_ne (by have := HLow.out x e; omega))); have HMk := Hid.mk (HMk.out.grown hg14 (fun x e => row_ne (by have := HLow.out x e; omega))); have h15 := mark_any (some ⟨w6.heap.size, 0, none⟩) m.length m.length K w14 Hm2.out (by have := HK.out; omega) (by have := HK.out; have := Hl2.out; omega) (.inl ⟨_, rfl, HX1.out.rowB⟩); obtain ⟨K2, hK2⟩ : ∃ K2 : Nat, K2 = K + 7 * m.length := ⟨_, rfl⟩; rw [← hK2] at h15; have H15 := Hid.mk h15; clear h15 hK2 H14 hg14 hg14' HX0 hs8) | (go_at_call 17; refine H15.out.mono ?_; rintro e w15 ⟨rfl, _, _, hg15'⟩; have hg15 : w14.grownBy w15 (some w6.heap.size) := hg15'; have hs6 := hB6.size; have hB15 := hB14.grown hg15 hB14.size (fun j hj => by cases hj; omega); have HW := Hid.mk (HW.out.grown hg15 (row_ne (by omega)) (fun x e => row_ne (by have := HW.out.low x e; omega))); have HG := Hid.mk (HG.out.grown hg15 (row_ne (by omega)) (fun x e => row_ne (by have := HLow.out x e; omega))); have HMk := Hid.mk (HMk.out.grown hg15 (fun x e => row_ne (by have := HLow.out x e; omega))); obtain ⟨p0, p1, p2⟩ := HW.out.cells; obtain ⟨g0, g1, g2⟩ := HG.out.cells; clear H15 hg15 hg15' HX1 hs6) | (go_at_call 9; clear E2; refine (eqOut_same r.1 r.2.1 r.2.2 ag aw r.1.length cw w15 HLr.out HG.out.row HW.out.row).mono ?_; rintro e w16 ⟨rfl, hb16⟩; have hB16 := hB15.trans (hb16.mono hB15.size); have HW := Hid.mk (HW.out.below hb16); have HG := Hid.mk (HG.out.below hb16); have HMk := Hid.mk (HMk.out.below hb16); clear p0 p1 p2 g0 g1 g2; obtain ⟨g0, g1, g2⟩ := HG.out.cells; have h17 := markOut_any ag r.1.length r.1.length r.2.1 r.2.2 w16 HLq.out HMk.out; obtain ⟨K3, hK3⟩ : ∃ K3 : Nat, K3 = 1 + 7 * r.1.length := ⟨_, rfl⟩; rw [← hK3] at h17; have H17 := Hid.mk h17; have HK3 := Hid.mk hK3; clear h17 hK3) | (go_at_call 10; refine H17.out.mono ?_; rintro e w17 ⟨rfl, hm17, _, hg17⟩; have hs7 := hB7.size; have hB17 := hB16.grown hg17 hB16.size (fun j hj => by cases hag : ag with | none => rw [hag] at hj; simp at hj | some x => rw [hag] at hj; simp at hj; have := HLow.out x hag; omega); have HW := Hid.mk (HW.out.grown hg17 (map_ne (fun x e => by have := HLow.out x e; omega)) (fun y ey => map_ne (fun x e => by have := HLow.out x e; have := HW.out.low y ey; omega))); have HG := Hid.mk (HG.out.marked hg17 (map_ne (fun x e => by have := HG.out.low x e; omega)) hm17); clear g0 g1 g2 H17 hg17 hm17 hs7; obtain ⟨g0, g1, g2⟩ := HG.out.cells; have h18 := heldOut_any ag r.1.length r.1.length r.2.1 r.2.2 w17 HLq.out HG.out.row; rw [← HK3.out] at h18; have H18 := Hid.mk h18; clear h18) | (go_at_call 11; clear Hh1; refine H18.out.mono ?_; rintro e w18 ⟨rfl, hb18⟩; have hB18 := hB17.trans (hb18.mono hB17.size); have HW := Hid.mk (HW.out.below hb18); have HG := Hid.mk (HG.out.below hb18); clear g0 g1 g2 H18) | (go_at_call 14; clear T7; refine (toOpS_any l ao cap w18 Hl2.out (HA.out.stays hB18)).mono ?_; rintro e w19 ⟨rfl, hx19, hb19⟩; have hB19 := hB18.trans (hb19.mono hB18.size); have HW := Hid.mk (HW.out.below hb19); have HG := Hid.mk (HG.out.below hb19); have HX19 := Hid.mk hx19; clear hx19) | (go_at_call 14; clear T8; refine (toOpS_any m ao2 cap2 w19 Hm2.out (HB.out.stays hB19)).mono ?_; rintro e w20 ⟨rfl, hx20, hb20⟩; have hB20 := hB19.trans (hb20.mono hB19.size); have HW := Hid.mk (HW.out.below hb20); have HG := Hid.mk (HG.out.below hb20); have h21 := iLogAdd_any l m _ _ l.length m.length w20 HLl.out HLm.out (Nat.le_refl _) (Nat.le_refl _) (HX19.out.stays hb20).opsAt hx20.opsAt HS.out HT.out; rw [← HR.out] at h21; have H21 := Hid.mk h21; clear h21 hx20 HX19) | (go_at_call 15; refine H21.out.mono ?_; rintro e w21 ⟨v21, rfl, ho21, hb21⟩; have hB21 := hB20.trans (hb21.mono hB20.size); obtain ⟨ah, rfl, hah, hmkh, hlowh⟩ := out_at ho21; have HW := Hid.mk (HW.out.below hb21); have HG := Hid.mk (HG.out.below hb21); have HRh := Hid.mk (Ans.new w21 ah r.1.length r.1.length r.2.1 r.2.2 r.1 hah (fun x e => (hlowh x e).2)); obtain ⟨p0, p1, p2⟩ := HW.out.cells; have hpl := HW.out.lt; clear H21 ho21 hah hmkh hlowh) | (go_at_call 9; have hab : Below w21.heap.size w21 (w21.alloc (.cells #[.slice ah r.1.length r.1.length, .int .i64 r.2.1, .int .i64 r.2.2] 24)) := (Below.refl _ _).alloc (Nat.le_refl _) _; refine (eqOut_same r.1 r.2.1 r.2.2 ah aw r.1.length cw (w21.alloc (.cells #[.slice ah r.1.length r.1.length, .int .i64 r.2.1, .int .i64 r.2.2] 24)) HLr.out HRh.out.row (HW.out.below hab).row).mono ?_; rintro e w22 ⟨rfl, hb22⟩; have hab22 : Below w21.heap.size w21 w22 := hab.trans (hb22.mono (by simp)); have hB22 := hB21.trans (hab22.mono hB21.size); have HG := Hid.mk (HG.out.below hab22); clear p0 p1 p2 hpl hab; obtain ⟨g0, g1, g2⟩ := HG.out.cells; have h23 := heldOut_any ag r.1.length r.1.length r.2.1 r.2.2 w22 HLq.out HG.out.row; rw [← HK3.out] at h23; have H23 := Hid.mk h23; clear h23) | (go_at_call 11; refine H23.out.mono ?_; rintro e w23 ⟨rfl, hb23⟩; have hB23 := hB22.trans (hb23.mono hB22.size); clear H23))
    go_ret
    exact ⟨rfl, hB23⟩
end Go.Proofs.Ytbahpaihblelmae.OpR
