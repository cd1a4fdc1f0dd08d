/- Proves what the draw of a log leaves: spec's (*l01Src).l02Some, and spec.DrawOpsRight. -/
import Derived.Test.YtlphcbgeagmopaaDrOps
import Derived.Test.YtlphcbgeagmopaaSLog
import Derived.Test.YtlphcbgeagmopaaOpsM
namespace Go.Proofs.Ytlphcbgeagmopaa.OpR
open Go.ChangeShapes Go.WideShapes Go.ChangeAt Go.RowKit Go.ChangeMaps
open SrcR (Src)
set_option linter.unusedVariables false

theorem res_len8 (l m : List OpV) : (logRes l m).1.length ≤ 150 := by
  unfold logRes
  split
  · simp
  · split
    · unfold addRes
      split
      · simp
      · split
        · simp
        · show _ ≤ 150; rename_i h; exact Nat.le_of_not_lt h
    · simp
theorem res_sz8 {l : List OpV} (h : OpSz8 l) : OpSz8 (logRes [] l).1 := by
  by_cases h0 : (logRes [] l).2.2 = 0
  · obtain ⟨hI, _⟩ := log_ok (l := []) (m := l) rfl h0
    intro o ho
    exact h o (by simpa using (hI.mem o).1 ho)
  · rw [log_bad (l := []) (m := l) rfl h0]
    exact fun o ho => (by cases ho)
theorem OpsOf.below {w w' : World} {base : Nat} {T : TypeId} {v : Value} {l : List OpV} (h : OpsOf w base T v l) (hb : Below w.heap.size w w') : OpsOf w' base T v l := by
  rcases h with h | h
  · exact .inl (h.below hb)
  · exact .inr h
theorem OpsOf.call {X Y : World} {base g : Nat} {T : TypeId} {v : Value} {l : List OpV} (h : OpsOf X base T v l) (hg : X.grownBy Y (some g)) (hlt : g < base) : OpsOf Y base T v l := by
  rcases h with h | h
  · exact .inl (h.call hg hlt)
  · exact .inr h
set_option maxRecDepth 100000 in
set_option maxHeartbeats 2000000 in
theorem drSome_any (g : Nat) (w : World) (ao : Option Addr) (len cap : Nat) (hs : Src w g ao len cap) (hg : Dg w g ao len) :
    Calls Try.prog 41 #[.pointer (some ⟨g, 0, none⟩)] w fun e w' => ∃ (v : Value) (l : List OpV), e = .returned v ∧ l.length ≤ 150 ∧ OpSz8 l ∧ OpsOf w' w.heap.size 40 v l ∧ Dr w w' g ao len cap := by
  have HG := Hid.mk hg
  have hg0 := hg.lt
  have HS := Hid.mk hs
  clear hs hg
  go_enter Try.func41, Try.ntmps41
  go_wp2_with fail
  refine (drOps_any g w ao len cap HS.out HG.out).mono ?_
  intro e x h
  obtain ⟨v, l, he, hl, hls, hO, hD⟩ := h
  subst he
  obtain ⟨gr, cap1, rfl, h1, h2, h3, h4, hat⟩ := hO.at
  have hm8 : maxLen = 9223372036854775807 := rfl
  have hsl := sLog_any [] l none (some ⟨gr, 0, none⟩) 0 cap1 x (by simp) (by omega) (fun k hk => (by simp at hk)) hat (fun o ho => (by cases ho)) (fun o ho => by have := hls o ho; omega)
  have HSL := Hid.mk hsl
  have HO := Hid.mk hO
  have HD := Hid.mk hD
  have HL := Hid.mk hls
  have HR := Hid.mk (And.intro (res_len8 [] l) (res_sz8 hls))
  have hxs := hD.grown.size
  clear hO hD hls hat hsl HS
  go_wp2_with fail
  refine HSL.out.mono ?_
  intro e y h
  obtain ⟨v2, he, hOf, hb⟩ := h
  subst he
  have HO1 := Hid.mk (HO.out.below hb)
  have HD1 := Hid.mk (HD.out.below hb)
  have HOf := Hid.mk (hOf.base hxs)
  obtain ⟨r, hr⟩ : ∃ r, r = logRes [] l := ⟨_, rfl⟩
  rw [← hr] at HR HOf hOf ⊢
  obtain ⟨sa, sc, rfl⟩ : ∃ sa sc, v2 = .slice sa r.1.length sc := by
    obtain ⟨a9, c9, e9, _⟩ := hOf.at
    exact ⟨a9, c9, e9⟩
  clear hr hOf hb HSL HO HD
  have hba : Below y.heap.size y (y.alloc (.cells #[.slice sa r.1.length sc, .int .i64 r.2.1, .int .i64 r.2.2] 27)) := (Below.refl _ _).alloc (Nat.le_refl _) _
  have HO2 := Hid.mk (HO1.out.below hba)
  have HD2 := Hid.mk (HD1.out.below hba)
  have HOf2 := Hid.mk (HOf.out.below hba)
  have hys := HD1.out.grown.size
  have hc0 : (y.alloc (.cells #[.slice sa r.1.length sc, .int .i64 r.2.1, .int .i64 r.2.2] 27)).cell? ⟨y.heap.size, 0, none⟩ = some (.slice sa r.1.length sc) := by simp
  obtain ⟨Y, hY⟩ : ∃ Y, Y = y.alloc (.cells #[.slice sa r.1.length sc, .int .i64 r.2.1, .int .i64 r.2.2] 27) := ⟨_, rfl⟩
  obtain ⟨B, hB⟩ : ∃ B, B = y.heap.size := ⟨_, rfl⟩
  have hBY : B < Y.heap.size := by rw [hY, hB]; simp
  go_wp2_with fail
  rw [← hY] at HO2 HD2 HOf2 hc0 ⊢
  rw [← hB] at hc0 hys ⊢
  clear hY hB hba HO1 HD1 HOf
  refine (one_dr HD2.out HG.out (by omega) (by omega)).mono ?_
  rintro e z ⟨b, rfl, hdz, hgz⟩
  have hcz := (cell_grown hgz hBY (show g ≠ B by omega) (i := 0)).trans hc0
  have HO3 := Hid.mk (HO2.out.call hgz hg0)
  have HOf3 := Hid.mk (HOf2.out.call hgz hg0)
  have HD3 := Hid.mk hdz
  clear hdz hgz hc0 HO2 HOf2 HD2
  cases b
  · go_wp2
    go_ret
    exact ⟨_, r.1, rfl, HR.out.1, HR.out.2, HOf3.out, HD3.out⟩
  · go_wp2
    go_ret
    exact ⟨_, l, rfl, by omega, HL.out, .inl HO3.out, HD3.out⟩
/-- A new source: what the draws want of it. -/
theorem dg_new {w w1 : World} {ao : Option Addr} {len cap : Nat} (hc : SrcR.Code w ao len) (hB : ∀ a, ao = some a → a.block < w.heap.size) (hs : Src w1 w.heap.size ao len cap) (hb : Below w.heap.size w w1) : Dg w1 w.heap.size ao len :=
  ⟨hc.below hb hB, fun a e => ⟨Nat.lt_of_lt_of_le (hB a e) hb.size, by have := hB a e; omega⟩, hs.lt⟩
/-- What a new source's draws leave, from outside. -/
theorem Dr.out {w w1 w2 : World} {ao : Option Addr} {len cap : Nat} (hb : Below w.heap.size w w1) (h : Dr w1 w2 w.heap.size ao len cap) : Below w.heap.size w w2 :=
  ⟨h.grown.os.trans hb.os, h.grown.tape.trans hb.tape, h.grown.output.trans hb.output, Nat.le_trans hb.size h.grown.size, fun k hk => (h.grown.block k (Nat.lt_of_lt_of_le hk hb.size) (fun e => by have := Option.some.inj e; omega)).trans (hb.block k hk)⟩
set_option maxRecDepth 100000 in
set_option maxHeartbeats 400000 in
theorem drawOpsRight_any (w : World) (ao : Option Addr) (len cap : Nat) (hc : SrcR.Code w ao len) (hB : ∀ a, ao = some a → a.block < w.heap.size) :
    Calls Try.prog 17 #[.slice ao len cap] w fun e w' => ∃ (v : Value) (l : List OpV), e = .returned v ∧ l.length ≤ 18 ∧ OpSz8 l ∧ OwnAt w' w.heap.size 40 v l ∧ Below w.heap.size w w' := by
  have HC := Hid.mk hc
  clear hc
  go_enter Try.func17, Try.ntmps17
  go_wp2_with fail
  refine (SrcR.source_any w ao len cap HC.out hB).mono ?_
  rintro e w1 ⟨rfl, hs, hb⟩
  have hg := dg_new HC.out hB hs hb
  go_wp2_with fail
  refine (drOps_any w.heap.size w1 ao len cap hs hg).mono ?_
  intro e w2 h
  obtain ⟨v, l, he, hl, hls, hO, hD⟩ := h
  subst he
  have HO := Hid.mk hO
  have HD := Hid.mk (Dr.out hb hD)
  have hb1 := hb.size
  clear hO hD hs hg hb
  go_wp2
  go_ret
  exact ⟨v, l, rfl, hl, hls, ⟨owns_base HO.out.1 hb1, HO.out.2⟩, HD.out⟩
end Go.Proofs.Ytlphcbgeagmopaa.OpR
