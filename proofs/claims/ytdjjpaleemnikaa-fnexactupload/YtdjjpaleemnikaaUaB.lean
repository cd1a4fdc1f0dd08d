/- Proves what spec.Upload answers, its first refusals. Proves what spec.Upload answers where the place is beyond what is seen. Proves what spec.Upload answers where the first fresh one is late. Proves what spec.l07See makes: the list with one put at its place. Proves what spec.l07Copy makes: a server of its own. -/
import Derived.Test.YtdjjpaleemnikaaUaA
import Derived.Test.YtdjjpaleemnikaaSrvS
import Derived.Test.YtdjjpaleemnikaaMrgE
import Derived.Test.YtdjjpaleemnikaaSgZ
import Derived.Test.YtdjjpaleemnikaaSortX
import Derived.Deep.RegionLaw
import Derived.Deep.AppendLies
namespace Go.Proofs.Ytdjjpaleemnikaa.OpR
open Go.ChangeShapes Go.WideShapes Go.ChangeAt Go.RowKit
set_option linter.unusedVariables false

def allB (l : List OpV) (r : Int) : Bool := l.all fun o => o.repl == r
theorem allB_take {l : List OpV} {k : Nat} (h : k < l.length) (r : Int) : allB (l.take (k + 1)) r = (allB (l.take k) r && (l[k].repl == r)) := by
  unfold allB
  rw [List.take_add_one, List.getElem?_eq_getElem h, List.all_append]
  simp
set_option maxRecDepth 100000 in
set_option maxHeartbeats 1000000 in
theorem sUp_1 (s : SrvV) (b off lc : Nat) (sa : Option Addr) (sc : Nat) (r fr : Int) (l : List OpV) (bl ol cl : Nat) (w : World) (hz : SSz 1048576 s) (hlc : s.ops.length ≤ lc) (hA : OpsAt w (some ⟨b, off, none⟩) s.ops) (hB : SeensAt w sa s.seen) (hll : l.length ≤ 1048576) (hcl : l.length ≤ cl) (hL : OpsAt w (some ⟨bl, ol, none⟩) l) (hLz : Sized l) (h1 : 400 < l.length) : Calls Try.prog 7 #[s.agg (some ⟨b, off, none⟩) lc sa sc, .int .i64 r, .int .i64 fr, .slice (some ⟨bl, ol, none⟩) l.length cl] w fun e w' => SvT w w' e (SOutV.ill 0 2) := by
  have hr := fun W (hW : Below w.heap.size w W) => sSrv_any s (some ⟨b, off, none⟩) sa lc sc W (Nat.le_trans hz.ops (by unfold maxLen; omega)) (fun o ho => ⟨Nat.le_trans (hz.osz o ho).1 (by unfold maxLen; omega), Nat.le_trans (hz.osz o ho).2 (by unfold maxLen; omega)⟩) hz.seen (hA.stays hW) (hB.stays hW)
  have ho := fun W (hW : Below w.heap.size w W) => sOps_any l (some ⟨bl, ol, none⟩) cl W (Nat.le_trans hll (by unfold maxLen; omega)) (hL.stays hW) hLz
  have hi := fun W (hW : Below w.heap.size w W) => rises_any l (some ⟨bl, ol, none⟩) cl W (Nat.le_trans hll (by unfold maxLen; omega)) (hL.stays hW)
  have he := fun W => sRepl_any r W
  have hB0 := SD.start w s (some ⟨b, off, none⟩) lc sa sc
  have HB0 := hide hB0
  have HL := hide hL
  obtain ⟨p0, p1⟩ := hB0.sb.cells
  have d1 : decide (400 < l.length) = true := by simpa using h1
  obtain ⟨r0, r1, r2, r3, r4, fr_⟩ := five_ hB0.res
  unfold SrvV.agg at *
  clear hr ho hi he hB0 hA hB hz hL hLz
  go_enter Try.func7, Try.ntmps7
  go_wp2
  refine bodyPost_ret (v := .agg #[.slice none 0 0, .slice none 0 0, .slice none 0 0, .int .i64 0, .int .i64 2]) (by simp [results, Try.results7, go_sem]) rfl (SvT.ill (((Below.refl _ _).alloc (Nat.le_refl _) _).alloc (base_alloc _ _) _))
set_option maxRecDepth 100000 in
set_option maxHeartbeats 1000000 in
theorem sUp_f0 (s : SrvV) (b off lc : Nat) (sa : Option Addr) (sc : Nat) (r fr : Int) (l : List OpV) (bl ol cl : Nat) (w : World) (hz : SSz 1048576 s) (hlc : s.ops.length ≤ lc) (hA : OpsAt w (some ⟨b, off, none⟩) s.ops) (hB : SeensAt w sa s.seen) (hll : l.length ≤ 1048576) (hcl : l.length ≤ cl) (hL : OpsAt w (some ⟨bl, ol, none⟩) l) (hLz : Sized l) (h1 : ¬ 400 < l.length) (f0 : srvRight s = false) : Calls Try.prog 7 #[s.agg (some ⟨b, off, none⟩) lc sa sc, .int .i64 r, .int .i64 fr, .slice (some ⟨bl, ol, none⟩) l.length cl] w fun e w' => SvT w w' e (SOutV.ill 0 1) := by
  have hr := fun W (hW : Below w.heap.size w W) => sSrv_any s (some ⟨b, off, none⟩) sa lc sc W (Nat.le_trans hz.ops (by unfold maxLen; omega)) (fun o ho => ⟨Nat.le_trans (hz.osz o ho).1 (by unfold maxLen; omega), Nat.le_trans (hz.osz o ho).2 (by unfold maxLen; omega)⟩) hz.seen (hA.stays hW) (hB.stays hW)
  have ho := fun W (hW : Below w.heap.size w W) => sOps_any l (some ⟨bl, ol, none⟩) cl W (Nat.le_trans hll (by unfold maxLen; omega)) (hL.stays hW) hLz
  have hi := fun W (hW : Below w.heap.size w W) => rises_any l (some ⟨bl, ol, none⟩) cl W (Nat.le_trans hll (by unfold maxLen; omega)) (hL.stays hW)
  have he := fun W => sRepl_any r W
  have hB0 := SD.start w s (some ⟨b, off, none⟩) lc sa sc
  have HB0 := hide hB0
  have HL := hide hL
  obtain ⟨p0, p1⟩ := hB0.sb.cells
  have d1 : decide (400 < l.length) = false := by simpa using h1
  rw [f0] at hr
  have HR := hide hr
  have HO := hide ho
  have HI := hide hi
  have HE := hide he
  unfold SrvV.agg at *
  clear hr ho hi he hB0 hA hB hz hL hLz
  go_enter Try.func7, Try.ntmps7
  go_wp2_with (first | (go_at_call 25; (refine (HR.out _ HB0.out.sb.below).mono ?_); rintro e w1 ⟨rfl, hb⟩; have hB1 := HB0.out.step hb; have HB1 := hide hB1; clear p0 p1 hb; obtain ⟨p0, p1⟩ := hB1.sb.cells; clear hB1) | (go_at_call 26; (refine (HO.out _ HB1.out.sb.below).mono ?_); rintro e w2 ⟨rfl, hb⟩; have hB1 := HB1.out.step hb; have HB2 := hide hB1; clear p0 p1 hb; obtain ⟨p0, p1⟩ := hB1.sb.cells; clear hB1) | (go_at_call 27; (refine (HI.out _ HB2.out.sb.below).mono ?_); rintro e w3 ⟨rfl, hb⟩; have hB1 := HB2.out.step hb; have HB3 := hide hB1; clear p0 p1 hb; obtain ⟨p0, p1⟩ := hB1.sb.cells; clear hB1) | (go_at_call 28; (refine (HE.out _).mono ?_); rintro e w4 ⟨rfl, rfl⟩) | fail)
  clear p0 p1
  go_loopw [9, 10] (fun a i wr => ∃ k : Nat, k ≤ l.length ∧ i = .int .i64 k ∧ a = .bool false ∧ SD w wr s (some ⟨b, off, none⟩) lc sa sc) (fun _ i _ => l.length - (intOf i).toNat)
  case atStart => exact ⟨0, by omega, rfl, rfl, HB1.out⟩
  case round =>
    obtain ⟨k, hk, rfl, rfl, hSD⟩ := hrel
    have HSD := hide hSD
    obtain ⟨p0, p1⟩ := hSD.sb.cells
    obtain ⟨r0, r1, r2, r3, r4, fr_⟩ := five_ hSD.res
    by_cases h : k < l.length
    · have dk : decide (k < l.length) = true := by simpa using h
      clear hSD
      go_wp2
      go_roundw
      case rel => exact ⟨k + 1, by omega, by go_num, rfl, HSD.out⟩
      case measure => simp [intOf]; omega
    · obtain rfl : k = l.length := by omega
      have dk : decide (l.length < l.length) = false := by simp
      go_wp2
      refine bodyPost_ret (v := .agg #[.slice none 0 0, .slice none 0 0, .slice none 0 0, .int .i64 0, .int .i64 1]) (by simp [results, Try.results7, go_sem, r0, r1, r2, r3, r4]) rfl (SvT.ill (below5 HSD.out.sb.below (by omega) _ _ _ _ _))
set_option maxRecDepth 100000 in
set_option maxHeartbeats 1000000 in
theorem sUp_f1 (s : SrvV) (b off lc : Nat) (sa : Option Addr) (sc : Nat) (r fr : Int) (l : List OpV) (bl ol cl : Nat) (w : World) (hz : SSz 1048576 s) (hlc : s.ops.length ≤ lc) (hA : OpsAt w (some ⟨b, off, none⟩) s.ops) (hB : SeensAt w sa s.seen) (hll : l.length ≤ 1048576) (hcl : l.length ≤ cl) (hL : OpsAt w (some ⟨bl, ol, none⟩) l) (hLz : Sized l) (h1 : ¬ 400 < l.length) (f0 : srvRight s = true) (f1 : opsRight l = false) : Calls Try.prog 7 #[s.agg (some ⟨b, off, none⟩) lc sa sc, .int .i64 r, .int .i64 fr, .slice (some ⟨bl, ol, none⟩) l.length cl] w fun e w' => SvT w w' e (SOutV.ill 0 1) := by
  have hr := fun W (hW : Below w.heap.size w W) => sSrv_any s (some ⟨b, off, none⟩) sa lc sc W (Nat.le_trans hz.ops (by unfold maxLen; omega)) (fun o ho => ⟨Nat.le_trans (hz.osz o ho).1 (by unfold maxLen; omega), Nat.le_trans (hz.osz o ho).2 (by unfold maxLen; omega)⟩) hz.seen (hA.stays hW) (hB.stays hW)
  have ho := fun W (hW : Below w.heap.size w W) => sOps_any l (some ⟨bl, ol, none⟩) cl W (Nat.le_trans hll (by unfold maxLen; omega)) (hL.stays hW) hLz
  have hi := fun W (hW : Below w.heap.size w W) => rises_any l (some ⟨bl, ol, none⟩) cl W (Nat.le_trans hll (by unfold maxLen; omega)) (hL.stays hW)
  have he := fun W => sRepl_any r W
  have hB0 := SD.start w s (some ⟨b, off, none⟩) lc sa sc
  have HB0 := hide hB0
  have HL := hide hL
  obtain ⟨p0, p1⟩ := hB0.sb.cells
  have d1 : decide (400 < l.length) = false := by simpa using h1
  rw [f0] at hr
  rw [f1] at ho
  have HR := hide hr
  have HO := hide ho
  have HI := hide hi
  have HE := hide he
  unfold SrvV.agg at *
  clear hr ho hi he hB0 hA hB hz hL hLz
  go_enter Try.func7, Try.ntmps7
  go_wp2_with (first | (go_at_call 25; (refine (HR.out _ HB0.out.sb.below).mono ?_); rintro e w1 ⟨rfl, hb⟩; have hB1 := HB0.out.step hb; have HB1 := hide hB1; clear p0 p1 hb; obtain ⟨p0, p1⟩ := hB1.sb.cells; clear hB1) | (go_at_call 26; (refine (HO.out _ HB1.out.sb.below).mono ?_); rintro e w2 ⟨rfl, hb⟩; have hB1 := HB1.out.step hb; have HB2 := hide hB1; clear p0 p1 hb; obtain ⟨p0, p1⟩ := hB1.sb.cells; clear hB1) | (go_at_call 27; (refine (HI.out _ HB2.out.sb.below).mono ?_); rintro e w3 ⟨rfl, hb⟩; have hB1 := HB2.out.step hb; have HB3 := hide hB1; clear p0 p1 hb; obtain ⟨p0, p1⟩ := hB1.sb.cells; clear hB1) | (go_at_call 28; (refine (HE.out _).mono ?_); rintro e w4 ⟨rfl, rfl⟩) | fail)
  clear p0 p1
  go_loopw [9, 10] (fun a i wr => ∃ k : Nat, k ≤ l.length ∧ i = .int .i64 k ∧ a = .bool false ∧ SD w wr s (some ⟨b, off, none⟩) lc sa sc) (fun _ i _ => l.length - (intOf i).toNat)
  case atStart => exact ⟨0, by omega, rfl, rfl, HB2.out⟩
  case round =>
    obtain ⟨k, hk, rfl, rfl, hSD⟩ := hrel
    have HSD := hide hSD
    obtain ⟨p0, p1⟩ := hSD.sb.cells
    obtain ⟨r0, r1, r2, r3, r4, fr_⟩ := five_ hSD.res
    by_cases h : k < l.length
    · have dk : decide (k < l.length) = true := by simpa using h
      clear hSD
      go_wp2
      go_roundw
      case rel => exact ⟨k + 1, by omega, by go_num, rfl, HSD.out⟩
      case measure => simp [intOf]; omega
    · obtain rfl : k = l.length := by omega
      have dk : decide (l.length < l.length) = false := by simp
      go_wp2
      refine bodyPost_ret (v := .agg #[.slice none 0 0, .slice none 0 0, .slice none 0 0, .int .i64 0, .int .i64 1]) (by simp [results, Try.results7, go_sem, r0, r1, r2, r3, r4]) rfl (SvT.ill (below5 HSD.out.sb.below (by omega) _ _ _ _ _))
set_option maxRecDepth 100000 in
set_option maxHeartbeats 1000000 in
theorem sUp_f2 (s : SrvV) (b off lc : Nat) (sa : Option Addr) (sc : Nat) (r fr : Int) (l : List OpV) (bl ol cl : Nat) (w : World) (hz : SSz 1048576 s) (hlc : s.ops.length ≤ lc) (hA : OpsAt w (some ⟨b, off, none⟩) s.ops) (hB : SeensAt w sa s.seen) (hll : l.length ≤ 1048576) (hcl : l.length ≤ cl) (hL : OpsAt w (some ⟨bl, ol, none⟩) l) (hLz : Sized l) (h1 : ¬ 400 < l.length) (f0 : srvRight s = true) (f1 : opsRight l = true) (f2 : rises l = false) : Calls Try.prog 7 #[s.agg (some ⟨b, off, none⟩) lc sa sc, .int .i64 r, .int .i64 fr, .slice (some ⟨bl, ol, none⟩) l.length cl] w fun e w' => SvT w w' e (SOutV.ill 0 1) := by
  have hr := fun W (hW : Below w.heap.size w W) => sSrv_any s (some ⟨b, off, none⟩) sa lc sc W (Nat.le_trans hz.ops (by unfold maxLen; omega)) (fun o ho => ⟨Nat.le_trans (hz.osz o ho).1 (by unfold maxLen; omega), Nat.le_trans (hz.osz o ho).2 (by unfold maxLen; omega)⟩) hz.seen (hA.stays hW) (hB.stays hW)
  have ho := fun W (hW : Below w.heap.size w W) => sOps_any l (some ⟨bl, ol, none⟩) cl W (Nat.le_trans hll (by unfold maxLen; omega)) (hL.stays hW) hLz
  have hi := fun W (hW : Below w.heap.size w W) => rises_any l (some ⟨bl, ol, none⟩) cl W (Nat.le_trans hll (by unfold maxLen; omega)) (hL.stays hW)
  have he := fun W => sRepl_any r W
  have hB0 := SD.start w s (some ⟨b, off, none⟩) lc sa sc
  have HB0 := hide hB0
  have HL := hide hL
  obtain ⟨p0, p1⟩ := hB0.sb.cells
  have d1 : decide (400 < l.length) = false := by simpa using h1
  rw [f0] at hr
  rw [f1] at ho
  rw [f2] at hi
  have HR := hide hr
  have HO := hide ho
  have HI := hide hi
  have HE := hide he
  unfold SrvV.agg at *
  clear hr ho hi he hB0 hA hB hz hL hLz
  go_enter Try.func7, Try.ntmps7
  go_wp2_with (first | (go_at_call 25; (refine (HR.out _ HB0.out.sb.below).mono ?_); rintro e w1 ⟨rfl, hb⟩; have hB1 := HB0.out.step hb; have HB1 := hide hB1; clear p0 p1 hb; obtain ⟨p0, p1⟩ := hB1.sb.cells; clear hB1) | (go_at_call 26; (refine (HO.out _ HB1.out.sb.below).mono ?_); rintro e w2 ⟨rfl, hb⟩; have hB1 := HB1.out.step hb; have HB2 := hide hB1; clear p0 p1 hb; obtain ⟨p0, p1⟩ := hB1.sb.cells; clear hB1) | (go_at_call 27; (refine (HI.out _ HB2.out.sb.below).mono ?_); rintro e w3 ⟨rfl, hb⟩; have hB1 := HB2.out.step hb; have HB3 := hide hB1; clear p0 p1 hb; obtain ⟨p0, p1⟩ := hB1.sb.cells; clear hB1) | (go_at_call 28; (refine (HE.out _).mono ?_); rintro e w4 ⟨rfl, rfl⟩) | fail)
  clear p0 p1
  go_loopw [9, 10] (fun a i wr => ∃ k : Nat, k ≤ l.length ∧ i = .int .i64 k ∧ a = .bool false ∧ SD w wr s (some ⟨b, off, none⟩) lc sa sc) (fun _ i _ => l.length - (intOf i).toNat)
  case atStart => exact ⟨0, by omega, rfl, rfl, HB3.out⟩
  case round =>
    obtain ⟨k, hk, rfl, rfl, hSD⟩ := hrel
    have HSD := hide hSD
    obtain ⟨p0, p1⟩ := hSD.sb.cells
    obtain ⟨r0, r1, r2, r3, r4, fr_⟩ := five_ hSD.res
    by_cases h : k < l.length
    · have dk : decide (k < l.length) = true := by simpa using h
      clear hSD
      go_wp2
      go_roundw
      case rel => exact ⟨k + 1, by omega, by go_num, rfl, HSD.out⟩
      case measure => simp [intOf]; omega
    · obtain rfl : k = l.length := by omega
      have dk : decide (l.length < l.length) = false := by simp
      go_wp2
      refine bodyPost_ret (v := .agg #[.slice none 0 0, .slice none 0 0, .slice none 0 0, .int .i64 0, .int .i64 1]) (by simp [results, Try.results7, go_sem, r0, r1, r2, r3, r4]) rfl (SvT.ill (below5 HSD.out.sb.below (by omega) _ _ _ _ _))
set_option maxRecDepth 100000 in
set_option maxHeartbeats 1000000 in
theorem sUp_f3 (s : SrvV) (b off lc : Nat) (sa : Option Addr) (sc : Nat) (r fr : Int) (l : List OpV) (bl ol cl : Nat) (w : World) (hz : SSz 1048576 s) (hlc : s.ops.length ≤ lc) (hA : OpsAt w (some ⟨b, off, none⟩) s.ops) (hB : SeensAt w sa s.seen) (hll : l.length ≤ 1048576) (hcl : l.length ≤ cl) (hL : OpsAt w (some ⟨bl, ol, none⟩) l) (hLz : Sized l) (h1 : ¬ 400 < l.length) (f0 : srvRight s = true) (f1 : opsRight l = true) (f2 : rises l = true) (f3 : isIn r 1 50 = false) : Calls Try.prog 7 #[s.agg (some ⟨b, off, none⟩) lc sa sc, .int .i64 r, .int .i64 fr, .slice (some ⟨bl, ol, none⟩) l.length cl] w fun e w' => SvT w w' e (SOutV.ill 0 1) := by
  have hr := fun W (hW : Below w.heap.size w W) => sSrv_any s (some ⟨b, off, none⟩) sa lc sc W (Nat.le_trans hz.ops (by unfold maxLen; omega)) (fun o ho => ⟨Nat.le_trans (hz.osz o ho).1 (by unfold maxLen; omega), Nat.le_trans (hz.osz o ho).2 (by unfold maxLen; omega)⟩) hz.seen (hA.stays hW) (hB.stays hW)
  have ho := fun W (hW : Below w.heap.size w W) => sOps_any l (some ⟨bl, ol, none⟩) cl W (Nat.le_trans hll (by unfold maxLen; omega)) (hL.stays hW) hLz
  have hi := fun W (hW : Below w.heap.size w W) => rises_any l (some ⟨bl, ol, none⟩) cl W (Nat.le_trans hll (by unfold maxLen; omega)) (hL.stays hW)
  have he := fun W => sRepl_any r W
  have hB0 := SD.start w s (some ⟨b, off, none⟩) lc sa sc
  have HB0 := hide hB0
  have HL := hide hL
  obtain ⟨p0, p1⟩ := hB0.sb.cells
  have d1 : decide (400 < l.length) = false := by simpa using h1
  rw [f0] at hr
  rw [f1] at ho
  rw [f2] at hi
  rw [f3] at he
  have HR := hide hr
  have HO := hide ho
  have HI := hide hi
  have HE := hide he
  unfold SrvV.agg at *
  clear hr ho hi he hB0 hA hB hz hL hLz
  go_enter Try.func7, Try.ntmps7
  go_wp2_with (first | (go_at_call 25; (refine (HR.out _ HB0.out.sb.below).mono ?_); rintro e w1 ⟨rfl, hb⟩; have hB1 := HB0.out.step hb; have HB1 := hide hB1; clear p0 p1 hb; obtain ⟨p0, p1⟩ := hB1.sb.cells; clear hB1) | (go_at_call 26; (refine (HO.out _ HB1.out.sb.below).mono ?_); rintro e w2 ⟨rfl, hb⟩; have hB1 := HB1.out.step hb; have HB2 := hide hB1; clear p0 p1 hb; obtain ⟨p0, p1⟩ := hB1.sb.cells; clear hB1) | (go_at_call 27; (refine (HI.out _ HB2.out.sb.below).mono ?_); rintro e w3 ⟨rfl, hb⟩; have hB1 := HB2.out.step hb; have HB3 := hide hB1; clear p0 p1 hb; obtain ⟨p0, p1⟩ := hB1.sb.cells; clear hB1) | (go_at_call 28; (refine (HE.out _).mono ?_); rintro e w4 ⟨rfl, rfl⟩) | fail)
  clear p0 p1
  go_loopw [9, 10] (fun a i wr => ∃ k : Nat, k ≤ l.length ∧ i = .int .i64 k ∧ a = .bool false ∧ SD w wr s (some ⟨b, off, none⟩) lc sa sc) (fun _ i _ => l.length - (intOf i).toNat)
  case atStart => exact ⟨0, by omega, rfl, rfl, HB3.out⟩
  case round =>
    obtain ⟨k, hk, rfl, rfl, hSD⟩ := hrel
    have HSD := hide hSD
    obtain ⟨p0, p1⟩ := hSD.sb.cells
    obtain ⟨r0, r1, r2, r3, r4, fr_⟩ := five_ hSD.res
    by_cases h : k < l.length
    · have dk : decide (k < l.length) = true := by simpa using h
      clear hSD
      go_wp2
      go_roundw
      case rel => exact ⟨k + 1, by omega, by go_num, rfl, HSD.out⟩
      case measure => simp [intOf]; omega
    · obtain rfl : k = l.length := by omega
      have dk : decide (l.length < l.length) = false := by simp
      go_wp2
      refine bodyPost_ret (v := .agg #[.slice none 0 0, .slice none 0 0, .slice none 0 0, .int .i64 0, .int .i64 1]) (by simp [results, Try.results7, go_sem, r0, r1, r2, r3, r4]) rfl (SvT.ill (below5 HSD.out.sb.below (by omega) _ _ _ _ _))
set_option maxRecDepth 100000 in
set_option maxHeartbeats 1000000 in
theorem sUp_f4 (s : SrvV) (b off lc : Nat) (sa : Option Addr) (sc : Nat) (r fr : Int) (l : List OpV) (bl ol cl : Nat) (w : World) (hz : SSz 1048576 s) (hlc : s.ops.length ≤ lc) (hA : OpsAt w (some ⟨b, off, none⟩) s.ops) (hB : SeensAt w sa s.seen) (hll : l.length ≤ 1048576) (hcl : l.length ≤ cl) (hL : OpsAt w (some ⟨bl, ol, none⟩) l) (hLz : Sized l) (h1 : ¬ 400 < l.length) (f0 : srvRight s = true) (f1 : opsRight l = true) (f2 : rises l = true) (f3 : isIn r 1 50 = true) (f4 : decide (0 ≤ fr) = false) : Calls Try.prog 7 #[s.agg (some ⟨b, off, none⟩) lc sa sc, .int .i64 r, .int .i64 fr, .slice (some ⟨bl, ol, none⟩) l.length cl] w fun e w' => SvT w w' e (SOutV.ill 0 1) := by
  have hr := fun W (hW : Below w.heap.size w W) => sSrv_any s (some ⟨b, off, none⟩) sa lc sc W (Nat.le_trans hz.ops (by unfold maxLen; omega)) (fun o ho => ⟨Nat.le_trans (hz.osz o ho).1 (by unfold maxLen; omega), Nat.le_trans (hz.osz o ho).2 (by unfold maxLen; omega)⟩) hz.seen (hA.stays hW) (hB.stays hW)
  have ho := fun W (hW : Below w.heap.size w W) => sOps_any l (some ⟨bl, ol, none⟩) cl W (Nat.le_trans hll (by unfold maxLen; omega)) (hL.stays hW) hLz
  have hi := fun W (hW : Below w.heap.size w W) => rises_any l (some ⟨bl, ol, none⟩) cl W (Nat.le_trans hll (by unfold maxLen; omega)) (hL.stays hW)
  have he := fun W => sRepl_any r W
  have hB0 := SD.start w s (some ⟨b, off, none⟩) lc sa sc
  have HB0 := hide hB0
  have HL := hide hL
  obtain ⟨p0, p1⟩ := hB0.sb.cells
  have d1 : decide (400 < l.length) = false := by simpa using h1
  rw [f0] at hr
  rw [f1] at ho
  rw [f2] at hi
  rw [f3] at he
  have HR := hide hr
  have HO := hide ho
  have HI := hide hi
  have HE := hide he
  unfold SrvV.agg at *
  clear hr ho hi he hB0 hA hB hz hL hLz
  go_enter Try.func7, Try.ntmps7
  go_wp2_with (first | (go_at_call 25; (refine (HR.out _ HB0.out.sb.below).mono ?_); rintro e w1 ⟨rfl, hb⟩; have hB1 := HB0.out.step hb; have HB1 := hide hB1; clear p0 p1 hb; obtain ⟨p0, p1⟩ := hB1.sb.cells; clear hB1) | (go_at_call 26; (refine (HO.out _ HB1.out.sb.below).mono ?_); rintro e w2 ⟨rfl, hb⟩; have hB1 := HB1.out.step hb; have HB2 := hide hB1; clear p0 p1 hb; obtain ⟨p0, p1⟩ := hB1.sb.cells; clear hB1) | (go_at_call 27; (refine (HI.out _ HB2.out.sb.below).mono ?_); rintro e w3 ⟨rfl, hb⟩; have hB1 := HB2.out.step hb; have HB3 := hide hB1; clear p0 p1 hb; obtain ⟨p0, p1⟩ := hB1.sb.cells; clear hB1) | (go_at_call 28; (refine (HE.out _).mono ?_); rintro e w4 ⟨rfl, rfl⟩) | fail)
  clear p0 p1
  go_loopw [9, 10] (fun a i wr => ∃ k : Nat, k ≤ l.length ∧ i = .int .i64 k ∧ a = .bool false ∧ SD w wr s (some ⟨b, off, none⟩) lc sa sc) (fun _ i _ => l.length - (intOf i).toNat)
  case atStart => exact ⟨0, by omega, rfl, rfl, HB3.out⟩
  case round =>
    obtain ⟨k, hk, rfl, rfl, hSD⟩ := hrel
    have HSD := hide hSD
    obtain ⟨p0, p1⟩ := hSD.sb.cells
    obtain ⟨r0, r1, r2, r3, r4, fr_⟩ := five_ hSD.res
    by_cases h : k < l.length
    · have dk : decide (k < l.length) = true := by simpa using h
      clear hSD
      go_wp2
      go_roundw
      case rel => exact ⟨k + 1, by omega, by go_num, rfl, HSD.out⟩
      case measure => simp [intOf]; omega
    · obtain rfl : k = l.length := by omega
      have dk : decide (l.length < l.length) = false := by simp
      go_wp2
      refine bodyPost_ret (v := .agg #[.slice none 0 0, .slice none 0 0, .slice none 0 0, .int .i64 0, .int .i64 1]) (by simp [results, Try.results7, go_sem, r0, r1, r2, r3, r4]) rfl (SvT.ill (below5 HSD.out.sb.below (by omega) _ _ _ _ _))
set_option maxRecDepth 100000 in
set_option maxHeartbeats 1000000 in
theorem sUp_f5 (s : SrvV) (b off lc : Nat) (sa : Option Addr) (sc : Nat) (r fr : Int) (l : List OpV) (bl ol cl : Nat) (w : World) (hz : SSz 1048576 s) (hlc : s.ops.length ≤ lc) (hA : OpsAt w (some ⟨b, off, none⟩) s.ops) (hB : SeensAt w sa s.seen) (hll : l.length ≤ 1048576) (hcl : l.length ≤ cl) (hL : OpsAt w (some ⟨bl, ol, none⟩) l) (hLz : Sized l) (h1 : ¬ 400 < l.length) (f0 : srvRight s = true) (f1 : opsRight l = true) (f2 : rises l = true) (f3 : isIn r 1 50 = true) (f4 : decide (0 ≤ fr) = true) (f5 : allB l r = false) : Calls Try.prog 7 #[s.agg (some ⟨b, off, none⟩) lc sa sc, .int .i64 r, .int .i64 fr, .slice (some ⟨bl, ol, none⟩) l.length cl] w fun e w' => SvT w w' e (SOutV.ill 0 1) := by
  have hr := fun W (hW : Below w.heap.size w W) => sSrv_any s (some ⟨b, off, none⟩) sa lc sc W (Nat.le_trans hz.ops (by unfold maxLen; omega)) (fun o ho => ⟨Nat.le_trans (hz.osz o ho).1 (by unfold maxLen; omega), Nat.le_trans (hz.osz o ho).2 (by unfold maxLen; omega)⟩) hz.seen (hA.stays hW) (hB.stays hW)
  have ho := fun W (hW : Below w.heap.size w W) => sOps_any l (some ⟨bl, ol, none⟩) cl W (Nat.le_trans hll (by unfold maxLen; omega)) (hL.stays hW) hLz
  have hi := fun W (hW : Below w.heap.size w W) => rises_any l (some ⟨bl, ol, none⟩) cl W (Nat.le_trans hll (by unfold maxLen; omega)) (hL.stays hW)
  have he := fun W => sRepl_any r W
  have hB0 := SD.start w s (some ⟨b, off, none⟩) lc sa sc
  have HB0 := hide hB0
  have HL := hide hL
  obtain ⟨p0, p1⟩ := hB0.sb.cells
  have d1 : decide (400 < l.length) = false := by simpa using h1
  rw [f0] at hr
  rw [f1] at ho
  rw [f2] at hi
  rw [f3] at he
  have HR := hide hr
  have HO := hide ho
  have HI := hide hi
  have HE := hide he
  unfold SrvV.agg at *
  clear hr ho hi he hB0 hA hB hz hL hLz
  go_enter Try.func7, Try.ntmps7
  go_wp2_with (first | (go_at_call 25; (refine (HR.out _ HB0.out.sb.below).mono ?_); rintro e w1 ⟨rfl, hb⟩; have hB1 := HB0.out.step hb; have HB1 := hide hB1; clear p0 p1 hb; obtain ⟨p0, p1⟩ := hB1.sb.cells; clear hB1) | (go_at_call 26; (refine (HO.out _ HB1.out.sb.below).mono ?_); rintro e w2 ⟨rfl, hb⟩; have hB1 := HB1.out.step hb; have HB2 := hide hB1; clear p0 p1 hb; obtain ⟨p0, p1⟩ := hB1.sb.cells; clear hB1) | (go_at_call 27; (refine (HI.out _ HB2.out.sb.below).mono ?_); rintro e w3 ⟨rfl, hb⟩; have hB1 := HB2.out.step hb; have HB3 := hide hB1; clear p0 p1 hb; obtain ⟨p0, p1⟩ := hB1.sb.cells; clear hB1) | (go_at_call 28; (refine (HE.out _).mono ?_); rintro e w4 ⟨rfl, rfl⟩) | fail)
  clear p0 p1
  go_loopw [9, 10] (fun a i wr => ∃ k : Nat, k ≤ l.length ∧ i = .int .i64 k ∧ a = .bool (allB (l.take k) r) ∧ SD w wr s (some ⟨b, off, none⟩) lc sa sc) (fun _ i _ => l.length - (intOf i).toNat)
  case atStart => exact ⟨0, by omega, rfl, by rfl, HB3.out⟩
  case round =>
    obtain ⟨k, hk, rfl, rfl, hSD⟩ := hrel
    have HSD := hide hSD
    obtain ⟨p0, p1⟩ := hSD.sb.cells
    obtain ⟨r0, r1, r2, r3, r4, fr_⟩ := five_ hSD.res
    by_cases h : k < l.length
    · have dk : decide (k < l.length) = true := by simpa using h
      obtain ⟨b', off', eb, hlt, hs0⟩ := HL.out k h
      cases eb
      obtain ⟨c0, c1, c2, c3, c4, c5, c6⟩ := hs0.block (w' := wr) (hSD.sb.below.block bl hlt)
      have hi0 : (0 : Int) ≤ (k : Int) := by omega
      have hi1 : (k : Int) < (l.length : Int) := by omega
      have hat := hide (allB_take h r)
      clear hSD hs0
      cases ha : allB (l.take k) r
      · have HAl := hide ha
        go_wp2
        go_roundw
        case rel => exact ⟨k + 1, by omega, by go_num, by rw [hat.out, HAl.out]; rfl, HSD.out⟩
        case measure => simp [intOf]; omega
      · have HAl := hide ha
        cases hq : (l[k].repl == r)
        · have HQ := hide hq
          go_wp2
          go_roundw
          case rel => exact ⟨k + 1, by omega, by go_num, by rw [hat.out, HAl.out, HQ.out]; rfl, HSD.out⟩
          case measure => simp [intOf]; omega
        · have HQ := hide hq
          go_wp2
          go_roundw
          case rel => exact ⟨k + 1, by omega, by go_num, by rw [hat.out, HAl.out, HQ.out]; rfl, HSD.out⟩
          case measure => simp [intOf]; omega
    · obtain rfl : k = l.length := by omega
      have dk : decide (l.length < l.length) = false := by simp
      have dt : allB (l.take l.length) r = false := by rw [List.take_length]; exact f5
      go_wp2
      refine bodyPost_ret (v := .agg #[.slice none 0 0, .slice none 0 0, .slice none 0 0, .int .i64 0, .int .i64 1]) (by simp [results, Try.results7, go_sem, r0, r1, r2, r3, r4]) rfl (SvT.ill (below5 HSD.out.sb.below (by omega) _ _ _ _ _))
end Go.Proofs.Ytdjjpaleemnikaa.OpR
namespace Go.Proofs.Ytdjjpaleemnikaa.OpR
open Go.ChangeShapes Go.WideShapes Go.ChangeAt Go.RowKit
set_option linter.unusedVariables false

set_option maxRecDepth 100000 in
set_option maxHeartbeats 1000000 in
theorem sUp_place (s : SrvV) (b off lc : Nat) (sa : Option Addr) (sc : Nat) (r fr : Int) (l : List OpV) (bl ol cl : Nat) (w : World) (hz : SSz 1048576 s) (hlc : s.ops.length ≤ lc) (hA : OpsAt w (some ⟨b, off, none⟩) s.ops) (hB : SeensAt w sa s.seen) (hll : l.length ≤ 1048576) (hcl : l.length ≤ cl) (hL : OpsAt w (some ⟨bl, ol, none⟩) l) (hLz : Sized l) (h1 : ¬ 400 < l.length) (f0 : srvRight s = true) (f1 : opsRight l = true) (f2 : rises l = true) (f3 : isIn r 1 50 = true) (f4 : decide (0 ≤ fr) = true) (f5 : allB l r = true) (n : Int) (hn : seenMany s.seen r = n) (hnf : n < fr) : Calls Try.prog 7 #[s.agg (some ⟨b, off, none⟩) lc sa sc, .int .i64 r, .int .i64 fr, .slice (some ⟨bl, ol, none⟩) l.length cl] w fun e w' => SvT w w' e (SOutV.ill n 8) := by
  have hr := fun W (hW : Below w.heap.size w W) => sSrv_any s (some ⟨b, off, none⟩) sa lc sc W (Nat.le_trans hz.ops (by unfold maxLen; omega)) (fun o ho => ⟨Nat.le_trans (hz.osz o ho).1 (by unfold maxLen; omega), Nat.le_trans (hz.osz o ho).2 (by unfold maxLen; omega)⟩) hz.seen (hA.stays hW) (hB.stays hW)
  have ho := fun W (hW : Below w.heap.size w W) => sOps_any l (some ⟨bl, ol, none⟩) cl W (Nat.le_trans hll (by unfold maxLen; omega)) (hL.stays hW) hLz
  have hi := fun W (hW : Below w.heap.size w W) => rises_any l (some ⟨bl, ol, none⟩) cl W (Nat.le_trans hll (by unfold maxLen; omega)) (hL.stays hW)
  have he := fun W => sRepl_any r W
  have hB0 := SD.start w s (some ⟨b, off, none⟩) lc sa sc
  have HB0 := hide hB0
  have HL := hide hL
  obtain ⟨p0, p1⟩ := hB0.sb.cells
  have d1 : decide (400 < l.length) = false := by simpa using h1
  rw [f0] at hr
  rw [f1] at ho
  rw [f2] at hi
  rw [f3] at he
  have hmn := fun W (hW : Below w.heap.size w W) => sMany_any s (some ⟨b, off, none⟩) sa lc sc r W hz.seen (hB.stays hW)
  rw [hn] at hmn
  have dn : decide (n < fr) = true := by simpa using hnf
  have HMn := hide hmn
  have HR := hide hr
  have HO := hide ho
  have HI := hide hi
  have HE := hide he
  unfold SrvV.agg at *
  clear hr ho hi he hB0 hA hB hz hL hLz hmn hn hnf
  go_enter Try.func7, Try.ntmps7
  go_wp2_with (first | (go_at_call 25; (refine (HR.out _ HB0.out.sb.below).mono ?_); rintro e w1 ⟨rfl, hb⟩; have hB1 := HB0.out.step hb; have HB1 := hide hB1; clear p0 p1 hb; obtain ⟨p0, p1⟩ := hB1.sb.cells; clear hB1) | (go_at_call 26; (refine (HO.out _ HB1.out.sb.below).mono ?_); rintro e w2 ⟨rfl, hb⟩; have hB1 := HB1.out.step hb; have HB2 := hide hB1; clear p0 p1 hb; obtain ⟨p0, p1⟩ := hB1.sb.cells; clear hB1) | (go_at_call 27; (refine (HI.out _ HB2.out.sb.below).mono ?_); rintro e w3 ⟨rfl, hb⟩; have hB1 := HB2.out.step hb; have HB3 := hide hB1; clear p0 p1 hb; obtain ⟨p0, p1⟩ := hB1.sb.cells; clear hB1) | (go_at_call 28; (refine (HE.out _).mono ?_); rintro e w4 ⟨rfl, rfl⟩) | fail)
  clear p0 p1
  go_loopw [9, 10] (fun a i wr => ∃ k : Nat, k ≤ l.length ∧ i = .int .i64 k ∧ a = .bool (allB (l.take k) r) ∧ SD w wr s (some ⟨b, off, none⟩) lc sa sc) (fun _ i _ => l.length - (intOf i).toNat)
  case atStart => exact ⟨0, by omega, rfl, by rfl, HB3.out⟩
  case round =>
    obtain ⟨k, hk, rfl, rfl, hSD⟩ := hrel
    have HSD := hide hSD
    obtain ⟨p0, p1⟩ := hSD.sb.cells
    obtain ⟨r0, r1, r2, r3, r4, fr_⟩ := five_ hSD.res
    by_cases h : k < l.length
    · have dk : decide (k < l.length) = true := by simpa using h
      obtain ⟨b', off', eb, hlt, hs0⟩ := HL.out k h
      cases eb
      obtain ⟨c0, c1, c2, c3, c4, c5, c6⟩ := hs0.block (w' := wr) (hSD.sb.below.block bl hlt)
      have hi0 : (0 : Int) ≤ (k : Int) := by omega
      have hi1 : (k : Int) < (l.length : Int) := by omega
      have hat := hide (allB_take h r)
      clear hSD hs0
      cases ha : allB (l.take k) r
      · have HAl := hide ha
        go_wp2
        go_roundw
        case rel => exact ⟨k + 1, by omega, by go_num, by rw [hat.out, HAl.out]; rfl, HSD.out⟩
        case measure => simp [intOf]; omega
      · have HAl := hide ha
        cases hq : (l[k].repl == r)
        · have HQ := hide hq
          go_wp2
          go_roundw
          case rel => exact ⟨k + 1, by omega, by go_num, by rw [hat.out, HAl.out, HQ.out]; rfl, HSD.out⟩
          case measure => simp [intOf]; omega
        · have HQ := hide hq
          go_wp2
          go_roundw
          case rel => exact ⟨k + 1, by omega, by go_num, by rw [hat.out, HAl.out, HQ.out]; rfl, HSD.out⟩
          case measure => simp [intOf]; omega
    · obtain rfl : k = l.length := by omega
      have dk : decide (l.length < l.length) = false := by simp
      have dt : allB (l.take l.length) r = true := by rw [List.take_length]; exact f5
      clear hSD
      go_wp2_with (first | (go_at_call 29; (refine (HMn.out _ HSD.out.sb.below).mono ?_); rintro e wm ⟨rfl, hbm⟩; have hBm := HSD.out.step hbm; have HBm := hide hBm; clear p0 p1 r0 r1 r2 r3 r4 fr_ hbm; obtain ⟨p0, p1⟩ := hBm.sb.cells; obtain ⟨r0, r1, r2, r3, r4, fr_⟩ := five_ hBm.res; clear hBm) | fail)
      refine bodyPost_ret (v := .agg #[.slice none 0 0, .slice none 0 0, .slice none 0 0, .int .i64 n, .int .i64 8]) (by simp [results, Try.results7, go_sem, r0, r1, r2, r3, r4]) rfl (SvT.ill (below5 HBm.out.sb.below (by omega) _ _ _ _ _))
end Go.Proofs.Ytdjjpaleemnikaa.OpR
namespace Go.Proofs.Ytdjjpaleemnikaa.OpR
open Go.ChangeShapes Go.WideShapes Go.ChangeAt Go.RowKit
set_option linter.unusedVariables false

/-- A server, the own ops and the fresh ones. -/
structure SLt (w W : World) (s : SrvV) (la : Option Addr) (lc : Nat) (sa : Option Addr) (sc g2 : Nat) (own : List OpV) (bl o2 : Nat) (more : List OpV) : Prop where
  sd : SD w W s la lc sa sc
  own : OpsAt W (some ⟨g2, 0, none⟩) own
  more : OpsAt W (some ⟨bl, o2, none⟩) more
theorem SLt.step {w W W' : World} {s : SrvV} {la : Option Addr} {lc : Nat} {sa : Option Addr} {sc g2 : Nat} {own : List OpV} {bl o2 : Nat} {more : List OpV} (h : SLt w W s la lc sa sc g2 own bl o2 more) (hb : Below W.heap.size W W') : SLt w W' s la lc sa sc g2 own bl o2 more := ⟨h.sd.step hb, h.own.stays hb, h.more.stays hb⟩
theorem SLt.own_ {w W : World} {s : SrvV} {la : Option Addr} {lc : Nat} {sa : Option Addr} {sc g2 : Nat} {own : List OpV} {bl o2 : Nat} {more : List OpV} (h : SLt w W s la lc sa sc g2 own bl o2 more) {j : Nat} (hj : j < own.length) : OpAt W g2 (j * 7) own[j] := h.own.at0 hj
theorem SLt.op {w W : World} {s : SrvV} {la : Option Addr} {lc : Nat} {sa : Option Addr} {sc g2 : Nat} {own : List OpV} {bl o2 : Nat} {o : OpV} {r : List OpV} (h : SLt w W s la lc sa sc g2 own bl o2 (o :: r)) : OpAt W bl o2 o := by
  obtain ⟨b', off', e, _, h0⟩ := h.more 0 (by simp)
  cases e
  simpa using h0
set_option maxRecDepth 100000 in
set_option maxHeartbeats 4000000 in
theorem sUp_late (s : SrvV) (b off lc : Nat) (sa : Option Addr) (sc : Nat) (r fr : Int) (l : List OpV) (bl ol cl : Nat) (w : World) (hz : SSz 1048576 s) (hlc : s.ops.length ≤ lc) (hA : OpsAt w (some ⟨b, off, none⟩) s.ops) (hB : SeensAt w sa s.seen) (hll : l.length ≤ 1048576) (hcl : l.length ≤ cl) (hL : OpsAt w (some ⟨bl, ol, none⟩) l) (hLz : Sized l) (h1 : ¬ 400 < l.length) (f0 : srvRight s = true) (f1 : opsRight l = true) (f2 : rises l = true) (f3 : isIn r 1 50 = true) (f4 : decide (0 ≤ fr) = true) (f5 : allB l r = true) (n : Int) (hn : seenMany s.seen r = n) (hnf : ¬ n < fr) (hn0 : 0 ≤ n ∧ n ≤ 150) (own more : List OpV) (hown : ownB s.ops r = own) (hmo : more = freshOps n fr l) (o : OpV) (r' : List OpV) (hc : more = o :: r') (j : Nat) (hj : j < own.length) (hjl : own.length = j + 1) (hla : ahead own[j] o = false) (hf0 : 0 ≤ fr) (hll4 : l.length ≤ 400) : Calls Try.prog 7 #[s.agg (some ⟨b, off, none⟩) lc sa sc, .int .i64 r, .int .i64 fr, .slice (some ⟨bl, ol, none⟩) l.length cl] w fun e w' => SvT w w' e (SOutV.ill 0 7) := by
  have hr := fun W (hW : Below w.heap.size w W) => sSrv_any s (some ⟨b, off, none⟩) sa lc sc W (Nat.le_trans hz.ops (by unfold maxLen; omega)) (fun o ho => ⟨Nat.le_trans (hz.osz o ho).1 (by unfold maxLen; omega), Nat.le_trans (hz.osz o ho).2 (by unfold maxLen; omega)⟩) hz.seen (hA.stays hW) (hB.stays hW)
  have ho := fun W (hW : Below w.heap.size w W) => sOps_any l (some ⟨bl, ol, none⟩) cl W (Nat.le_trans hll (by unfold maxLen; omega)) (hL.stays hW) hLz
  have hi := fun W (hW : Below w.heap.size w W) => rises_any l (some ⟨bl, ol, none⟩) cl W (Nat.le_trans hll (by unfold maxLen; omega)) (hL.stays hW)
  have he := fun W => sRepl_any r W
  have hB0 := SD.start w s (some ⟨b, off, none⟩) lc sa sc
  have HB0 := hide hB0
  have HL := hide hL
  obtain ⟨p0, p1⟩ := hB0.sb.cells
  have d1 : decide (400 < l.length) = false := by simpa using h1
  rw [f0] at hr
  rw [f1] at ho
  rw [f2] at hi
  rw [f3] at he
  have hmn := fun W (hW : Below w.heap.size w W) => sMany_any s (some ⟨b, off, none⟩) sa lc sc r W hz.seen (hB.stays hW)
  rw [hn] at hmn
  have hsr150 := ((srv_iff s).1 f0).ops.1
  have how := fun W (hW : Below w.heap.size w W) => sOwn_any s.ops (some ⟨b, off, none⟩) lc r W hsr150 (hA.stays hW)
  rw [hown] at how
  have dn : decide (n < fr) = false := by simpa using hnf
  obtain ⟨k9, hk9⟩ : ∃ k : Nat, min (l.length : Int) (n - fr) = (k : Int) := ⟨(min (l.length : Int) (n - fr)).toNat, by omega⟩
  have hkl : k9 ≤ l.length := by omega
  have hwr : wrap64 (n - fr) = n - fr := by unfold wrap64; omega
  obtain ⟨o2, ho2⟩ : ∃ o2, o2 = fromOff ol cl k9 := ⟨_, rfl⟩
  have hmo2 : more = l.drop k9 := by rw [hmo]; unfold freshOps; rw [show min (n - fr) (l.length : Int) = (k9 : Int) by omega]; rfl
  have hml : l.length - k9 = more.length := by rw [hmo2, List.length_drop]
  have hsl := fun W => slice_from W bl ol l.length cl k9 (k9 : Int) rfl hkl
  rw [← ho2, hml] at hsl
  have hat9 : ∀ W, Below w.heap.size w W → OpsAt W (some ⟨bl, o2, none⟩) more := fun W hW => by rw [ho2, hmo2]; exact (hL.stays hW).from k9 hcl
  have HAt9 := hide hat9
  have HOw := hide how
  have HMn := hide hmn
  have HR := hide hr
  have HO := hide ho
  have HI := hide hi
  have HE := hide he
  have hownl : own.length ≤ 150 := by rw [← hown]; have := own_len s.ops r; omega
  unfold SrvV.agg at *
  clear hr ho hi he hB0 hA hB hz hL hLz hmn hn hnf how hown hmo hmo2 ho2 hat9 hsr150
  subst hc
  have hah := fun W => ahead_any own[j] o W
  unfold OpV.agg at hah
  rw [hla] at hah
  have HAh := hide hah
  have d4 : decide (0 < (o :: r').length) = true := by simp
  have d5 : (0 : Int) < ((o :: r').length : Int) := by rw [List.length_cons]; omega
  have d6 : decide (0 < own.length) = true := by simp; omega
  have hwj : wrap64 ((own.length : Int) - 1) = (j : Int) := by unfold wrap64; omega
  have hwj2 : IntKind.i64.wrap ((own.length : Int) - 1) = (j : Int) := by rw [IntKind.wrap_i64]; omega
  have hj0 : (0 : Int) ≤ (j : Int) := by omega
  have hj1 : (j : Int) < (own.length : Int) := by omega
  have HJl := hide hjl
  clear hah hla hjl
  go_enter Try.func7, Try.ntmps7
  go_wp2_with (first | (go_at_call 25; (refine (HR.out _ HB0.out.sb.below).mono ?_); rintro e w1 ⟨rfl, hb⟩; have hB1 := HB0.out.step hb; have HB1 := hide hB1; clear p0 p1 hb; obtain ⟨p0, p1⟩ := hB1.sb.cells; clear hB1) | (go_at_call 26; (refine (HO.out _ HB1.out.sb.below).mono ?_); rintro e w2 ⟨rfl, hb⟩; have hB1 := HB1.out.step hb; have HB2 := hide hB1; clear p0 p1 hb; obtain ⟨p0, p1⟩ := hB1.sb.cells; clear hB1) | (go_at_call 27; (refine (HI.out _ HB2.out.sb.below).mono ?_); rintro e w3 ⟨rfl, hb⟩; have hB1 := HB2.out.step hb; have HB3 := hide hB1; clear p0 p1 hb; obtain ⟨p0, p1⟩ := hB1.sb.cells; clear hB1) | (go_at_call 28; (refine (HE.out _).mono ?_); rintro e w4 ⟨rfl, rfl⟩) | fail)
  clear p0 p1
  go_loopw [9, 10] (fun a i wr => ∃ k : Nat, k ≤ l.length ∧ i = .int .i64 k ∧ a = .bool (allB (l.take k) r) ∧ SD w wr s (some ⟨b, off, none⟩) lc sa sc) (fun _ i _ => l.length - (intOf i).toNat)
  case atStart => exact ⟨0, by omega, rfl, by rfl, HB3.out⟩
  case round =>
    obtain ⟨k, hk, rfl, rfl, hSD⟩ := hrel
    have HSD := hide hSD
    obtain ⟨p0, p1⟩ := hSD.sb.cells
    obtain ⟨r0, r1, r2, r3, r4, fr_⟩ := five_ hSD.res
    by_cases h : k < l.length
    · have dk : decide (k < l.length) = true := by simpa using h
      obtain ⟨b', off', eb, hlt, hs0⟩ := HL.out k h
      cases eb
      obtain ⟨c0, c1, c2, c3, c4, c5, c6⟩ := hs0.block (w' := wr) (hSD.sb.below.block bl hlt)
      have hi0 : (0 : Int) ≤ (k : Int) := by omega
      have hi1 : (k : Int) < (l.length : Int) := by omega
      have hat := hide (allB_take h r)
      clear hSD hs0
      cases ha : allB (l.take k) r
      · have HAl := hide ha
        go_wp2
        go_roundw
        case rel => exact ⟨k + 1, by omega, by go_num, by rw [hat.out, HAl.out]; rfl, HSD.out⟩
        case measure => simp [intOf]; omega
      · have HAl := hide ha
        cases hq : (l[k].repl == r)
        · have HQ := hide hq
          go_wp2
          go_roundw
          case rel => exact ⟨k + 1, by omega, by go_num, by rw [hat.out, HAl.out, HQ.out]; rfl, HSD.out⟩
          case measure => simp [intOf]; omega
        · have HQ := hide hq
          go_wp2
          go_roundw
          case rel => exact ⟨k + 1, by omega, by go_num, by rw [hat.out, HAl.out, HQ.out]; rfl, HSD.out⟩
          case measure => simp [intOf]; omega
    · obtain rfl : k = l.length := by omega
      have dk : decide (l.length < l.length) = false := by simp
      have dt : allB (l.take l.length) r = true := by rw [List.take_length]; exact f5
      clear hSD
      go_wp2_with (first | (go_at_call 29; (refine (HMn.out _ HSD.out.sb.below).mono ?_); rintro e wm ⟨rfl, hbm⟩; have hBm := HSD.out.step hbm; have HBm := hide hBm; clear p0 p1 r0 r1 r2 r3 r4 fr_ hbm; obtain ⟨p0, p1⟩ := hBm.sb.cells; obtain ⟨r0, r1, r2, r3, r4, fr_⟩ := five_ hBm.res; clear hBm) | (go_at_call 30; (refine (sMin2_any _ _ _).mono ?_); rintro e wn ⟨rfl, rfl⟩) | (go_at_call 31; (refine (HOw.out _ HBm.out.sb.below).mono ?_); rintro e wo ⟨vo, rfl, hoo, hbo⟩; obtain ⟨g2, c2, rfl, hg2, hlt2, hcc2, hcm2, hat2⟩ := hoo.at; have hBo := HBm.out.step hbo; have HBo := hide hBo; have HOo := hide (And.intro hg2 hat2); clear p0 p1 r0 r1 r2 r3 r4 fr_ hoo hbo hg2 hat2 hcc2 hcm2; obtain ⟨p0, p1⟩ := hBo.sb.cells; obtain ⟨r0, r1, r2, r3, r4, fr_⟩ := five_ hBo.res; clear hBo) | fail)
      have hS1 : SLt w wo s (some ⟨b, off, none⟩) lc sa sc g2 own bl o2 (o :: r') := ⟨HBo.out, HOo.out.2, HAt9.out _ HBo.out.sb.below⟩
      have HSd := hide (hS1.step (Below.refl _ _).drew)
      haveI : Nonempty (ClsW fun W => SLt w W s (some ⟨b, off, none⟩) lc sa sc g2 own bl o2 (o :: r')) := ⟨⟨_, hS1⟩⟩
      have X0 : ∀ q : (ClsW fun W => SLt w W s (some ⟨b, off, none⟩) lc sa sc g2 own bl o2 (o :: r')), q.wd.cell? ⟨g2, j * 7, none⟩ = some (.int .i64 own[j].time) := fun q => (q.ok.own_ hj).1
      have X1 : ∀ q : (ClsW fun W => SLt w W s (some ⟨b, off, none⟩) lc sa sc g2 own bl o2 (o :: r')), q.wd.cell? ⟨g2, j * 7 + 1, none⟩ = some (.int .i64 own[j].repl) := fun q => (q.ok.own_ hj).2.1
      have X2 : ∀ q : (ClsW fun W => SLt w W s (some ⟨b, off, none⟩) lc sa sc g2 own bl o2 (o :: r')), q.wd.cell? ⟨g2, j * 7 + 2, none⟩ = some (.int .i64 own[j].kind) := fun q => (q.ok.own_ hj).2.2.1
      have X3 : ∀ q : (ClsW fun W => SLt w W s (some ⟨b, off, none⟩) lc sa sc g2 own bl o2 (o :: r')), q.wd.cell? ⟨g2, j * 7 + 3, none⟩ = some (.int .i64 own[j].node) := fun q => (q.ok.own_ hj).2.2.2.1
      have X4 : ∀ q : (ClsW fun W => SLt w W s (some ⟨b, off, none⟩) lc sa sc g2 own bl o2 (o :: r')), q.wd.cell? ⟨g2, j * 7 + 4, none⟩ = some (.int .i64 own[j].parent) := fun q => (q.ok.own_ hj).2.2.2.2.1
      have X5 : ∀ q : (ClsW fun W => SLt w W s (some ⟨b, off, none⟩) lc sa sc g2 own bl o2 (o :: r')), q.wd.cell? ⟨g2, j * 7 + 5, none⟩ = some (.string own[j].name) := fun q => (q.ok.own_ hj).2.2.2.2.2.1
      have X6 : ∀ q : (ClsW fun W => SLt w W s (some ⟨b, off, none⟩) lc sa sc g2 own bl o2 (o :: r')), q.wd.cell? ⟨g2, j * 7 + 6, none⟩ = some (.string own[j].value) := fun q => (q.ok.own_ hj).2.2.2.2.2.2
      have Y0 : ∀ q : (ClsW fun W => SLt w W s (some ⟨b, off, none⟩) lc sa sc g2 own bl o2 (o :: r')), q.wd.cell? ⟨bl, o2, none⟩ = some (.int .i64 o.time) := fun q => q.ok.op.1
      have Y1 : ∀ q : (ClsW fun W => SLt w W s (some ⟨b, off, none⟩) lc sa sc g2 own bl o2 (o :: r')), q.wd.cell? ⟨bl, o2 + 1, none⟩ = some (.int .i64 o.repl) := fun q => q.ok.op.2.1
      have Y2 : ∀ q : (ClsW fun W => SLt w W s (some ⟨b, off, none⟩) lc sa sc g2 own bl o2 (o :: r')), q.wd.cell? ⟨bl, o2 + 2, none⟩ = some (.int .i64 o.kind) := fun q => q.ok.op.2.2.1
      have Y3 : ∀ q : (ClsW fun W => SLt w W s (some ⟨b, off, none⟩) lc sa sc g2 own bl o2 (o :: r')), q.wd.cell? ⟨bl, o2 + 3, none⟩ = some (.int .i64 o.node) := fun q => q.ok.op.2.2.2.1
      have Y4 : ∀ q : (ClsW fun W => SLt w W s (some ⟨b, off, none⟩) lc sa sc g2 own bl o2 (o :: r')), q.wd.cell? ⟨bl, o2 + 4, none⟩ = some (.int .i64 o.parent) := fun q => q.ok.op.2.2.2.2.1
      have Y5 : ∀ q : (ClsW fun W => SLt w W s (some ⟨b, off, none⟩) lc sa sc g2 own bl o2 (o :: r')), q.wd.cell? ⟨bl, o2 + 5, none⟩ = some (.string o.name) := fun q => q.ok.op.2.2.2.2.2.1
      have Y6 : ∀ q : (ClsW fun W => SLt w W s (some ⟨b, off, none⟩) lc sa sc g2 own bl o2 (o :: r')), q.wd.cell? ⟨bl, o2 + 6, none⟩ = some (.string o.value) := fun q => q.ok.op.2.2.2.2.2.2
      clear hS1 p0 p1 r0 r1 r2 r3 r4 fr_
      refine region_class (ι := (ClsW fun W => SLt w W s (some ⟨b, off, none⟩) lc sa sc g2 own bl o2 (o :: r'))) ClsW.wd (by kernel_rfl) (by kernel_rfl) ⟨_, HSd.out⟩ rfl ?_
      repeat (go_big_quiet_step (first | (go_at_call 32; rename_i q; refine (HAh.out _).mono ?_; rintro e w4 ⟨rfl, hw4⟩; exact ⟨rfl, ⟨w4, q.ok.step hw4⟩, rfl⟩)))
      refine wpQuiet_nil ?_
      rintro _ ⟨⟨w5, hV5⟩, rfl⟩
      clear X0 X1 X2 X3 X4 X5 X6 Y0 Y1 Y2 Y3 Y4 Y5 Y6
      obtain ⟨r0, r1, r2, r3, r4, fr_⟩ := five_ hV5.sd.res
      go_wp2
      refine bodyPost_ret (v := .agg #[.slice none 0 0, .slice none 0 0, .slice none 0 0, .int .i64 0, .int .i64 7]) (by simp [results, Try.results7, go_sem, r0, r1, r2, r3, r4]) rfl (SvT.ill (below5 hV5.sd.sb.below (by omega) _ _ _ _ _))
end Go.Proofs.Ytdjjpaleemnikaa.OpR
namespace Go.Proofs.Ytdjjpaleemnikaa.OpR
open Go.ChangeShapes Go.WideShapes Go.ChangeAt Go.RowKit
set_option linter.unusedVariables false

/-- Where one is put, and from where on the others stay. -/
def SeeIs (l : List SeenV) (x : SeenV) (k k' : Nat) : Prop := k ≤ l.length ∧ (∀ i (h : i < l.length), i < k → l[i].repl < x.repl) ∧ ((∃ h : k < l.length, l[k].repl = x.repl ∧ k' = k + 1) ∨ ((∀ h : k < l.length, x.repl < l[k].repl) ∧ k' = k))
def SeeAt (w w' : World) (e : Ending) (l : List SeenV) (x : SeenV) : Prop := ∃ k k', SeeIs l x k k' ∧ ∃ v, e = .returned v ∧ w'.ownsRow w.heap.size 67 2 v (l.take k ++ [x] ++ l.drop k').length (flatG SeenV.cells (l.take k ++ [x] ++ l.drop k')) ∧ Below w.heap.size w w'
theorem empty_rowE (X : World) : (X.alloc (.cells #[] 67)).ownsRow X.heap.size 67 2 (.slice (some ⟨X.heap.size, 0, none⟩) 0 0) ([] : List SeenV).length (flatG SeenV.cells []) :=
  World.ownsRow_made X #[] 0 (Nat.le_refl _) (by decide) rfl
theorem empty_atE (X : World) {g : Nat} (h : X.heap.size = g) : (X.alloc (.cells #[] 67)).ownsRow g 67 2 (.slice (some ⟨g, 0, none⟩) 0 0) ([] : List SeenV).length (flatG SeenV.cells []) := by
  subst h
  exact empty_rowE X
theorem balloc0 (W : World) (o : Obj) : Below W.heap.size W (W.alloc o) := (Below.refl _ _).alloc (Nat.le_refl _) _
theorem slice_headE (W : World) (g o len cap k : Nat) (K : Int) (hK : K = (k : Int)) (h : k ≤ cap) :
    (Instr.slice 29 (.slice (some ⟨g, o, none⟩) len cap) none (some (.int .i64 K)) none).run Try.prog W = .ok (.slice (some ⟨g, o, none⟩) k cap) W := by
  subst hK
  have ht : Try.prog.underlying 29 = some (.slice (Try.prog.elem 29)) := by kernel_rfl
  have hs : ∀ w, (sizeOf (Try.prog.elem 29)).run Try.prog w = .ok 2 w := fun _ => by kernel_rfl
  rw [run_slice_h W 29 (some ⟨g, o, none⟩) len cap ht .i64 (k : Int) (by omega) (by omega), hs]
  simp [Result.andThen, sliced, Addr.add]
/-- One of the seen in a variable. -/
structure SeB (w W : World) (x : SeenV) : Prop where
  box : W.heap[w.heap.size]? = some (.cells #[.int .i64 x.repl, .int .i64 x.many] 67 (0, 0))
  below : Below w.heap.size w W
theorem SeB.step {w W W' : World} {x : SeenV} (h : SeB w W x) (hb : Below W.heap.size W W') : SeB w W' x := ⟨(hb.block _ (Array.getElem?_eq_some_iff.1 h.box).1).trans h.box, h.below.trans (hb.mono h.below.size)⟩
theorem SeB.new (w : World) (x : SeenV) : SeB w (w.alloc (.cells #[.int .i64 x.repl, .int .i64 x.many] 67)) x := ⟨heap_alloc_new w _, (Below.refl _ _).alloc (Nat.le_refl _) _⟩
theorem own_baseE {w : World} {base n : Nat} {T : TypeId} {v : Value} {xs : List Value} (h : w.ownsRow base T 2 v n xs) : ∀ k, v.ownBlock = some k → base ≤ k := fun k hk => (h.lt k hk).1
theorem owns_downE {w : World} {base base' n : Nat} {T : TypeId} {v : Value} {xs : List Value} (h : w.ownsRow base T 2 v n xs) (hb : base' ≤ base) : w.ownsRow base' T 2 v n xs := ⟨h.1, h.2.imp id fun ⟨g, cap, cur, e, h1, h2⟩ => ⟨g, cap, cur, e, Nat.le_trans hb h1, h2⟩⟩
set_option maxRecDepth 100000 in
set_option maxHeartbeats 2000000 in
theorem see_0 (l : List SeenV) (b off cap : Nat) (x : SeenV) (w : World) (hl : l.length ≤ 1048576) (hcap : l.length ≤ cap) (hA : SeensAt w (some ⟨b, off, none⟩) l) (h0 : x.many = 0) : Calls Try.prog 34 #[.slice (some ⟨b, off, none⟩) l.length cap, .agg #[.int .i64 x.repl, .int .i64 x.many]] w fun e w' => ∃ v, e = .returned v ∧ w'.ownsRow w.heap.size 67 2 v (l).length (flatG SeenV.cells (l)) ∧ Below w.heap.size w w' := by
  have HB0 := hide (SeB.new w x)
  have HA := hide hA
  obtain ⟨p0, p1, _⟩ := two HB0.out.box
  have d0 : (x.many == 0) = true := by simpa using h0
  clear hA h0
  go_enter Try.func34, Try.ntmps34
  go_wp2_with (first | (at_builtin; (refine wpList_append_E rfl _ _ rfl (w.heap.size + 1) (.slice (some ⟨w.heap.size + 1, 0, none⟩) 0 0) [] rfl (empty_atE _ (World.size_alloc _ _)) (some ⟨b, off, none⟩) l cap rfl (HA.out.stays (HB0.out.below.alloc HB0.out.below.size _)) (by simp; omega) (by simp) ?_; intro v1 w1 ho1 hg1 hn1)) | fail)
  go_ret
  have hg' := hg1
  exact ⟨_, rfl, owns_downE ho1 (Nat.le_succ _), HB0.out.below.trans ((((Below.refl _ _).alloc (Nat.le_refl _) _).grown hg1 (base_alloc _ _) (fun k hk => by rw [World.size_alloc]; exact own_eq hk)).mono HB0.out.below.size)⟩
set_option maxRecDepth 100000 in
set_option maxHeartbeats 2000000 in
theorem see_1 (l : List SeenV) (b off cap : Nat) (x : SeenV) (w : World) (hl : l.length ≤ 1048576) (hcap : l.length ≤ cap) (hA : SeensAt w (some ⟨b, off, none⟩) l) (h0 : x.many ≠ 0) : Calls Try.prog 34 #[.slice (some ⟨b, off, none⟩) l.length cap, .agg #[.int .i64 x.repl, .int .i64 x.many]] w fun e w' => SeeAt w w' e l x := by
  have HB0 := hide (SeB.new w x)
  have HA := hide hA
  obtain ⟨p0, p1, _⟩ := two HB0.out.box
  have d0 : (x.many == 0) = false := by simpa using h0
  clear hA h0
  go_enter Try.func34, Try.ntmps34
  go_wp2
  clear p0 p1
  go_loopw [5] (fun i wr => ∃ k : Nat, k ≤ l.length ∧ i = .int .i64 k ∧ (∀ i (h : i < l.length), i < k → l[i].repl < x.repl) ∧ SeB w wr x) (fun i _ => l.length - (intOf i).toNat)
  case atStart => exact ⟨0, by omega, rfl, fun i h hk => by omega, HB0.out⟩
  case round =>
    obtain ⟨k, hk, rfl, hlo, hSB⟩ := hrel
    have HLo := hide hlo
    have HSB := hide hSB
    obtain ⟨p0, p1, _⟩ := two hSB.box
    clear hlo
    by_cases h : k < l.length
    · obtain ⟨b', off', eb, hlt, hs0⟩ := HA.out k h
      cases eb
      obtain ⟨c0, c1⟩ := hs0.block (w' := wr) (HSB.out.below.block b hlt)
      have hi0 : (0 : Int) ≤ (k : Int) := by omega
      have hi1 : (k : Int) < (l.length : Int) := by omega
      have dk : decide (k < l.length) = true := by simpa using h
      by_cases h1 : l[k].repl < x.repl
      · have d1 : decide (l[k].repl < x.repl) = true := by simpa using h1
        have H1 := hide h1
        clear hs0 h1 hSB
        go_wp2_with fail
        go_quiet (fail)
        go_wp2
        go_roundw
        case rel =>
          refine ⟨k + 1, by omega, by go_num, fun i hi hik => ?_, HSB.out.step (drewN_below wr nq)⟩
          rcases Nat.lt_or_ge i k with h' | h'
          · exact HLo.out i hi h'
          · obtain rfl : i = k := by omega
            exact H1.out
        case measure => simp [intOf]; omega
      · have d1 : decide (l[k].repl < x.repl) = false := by simpa using h1
        by_cases h2 : l[k].repl = x.repl
        · have e1 : (l[k].repl == x.repl) = true := by simpa using h2
          have H2 := hide h2
          have HS0 := hide hs0
          clear h1 h2 hs0
          go_wp2_with fail
          go_quiet (fail)
          have hb0 := hSB.step (drewN_below wr nq)
          have HSn := hide hb0
          have hsl9 := (Array.getElem?_eq_some_iff.1 hb0.box).1
          have HSl := hide hsl9
          obtain ⟨A, hA9⟩ : ∃ A, A = l.take k := ⟨_, rfl⟩
          have hAl : A.length = k := by rw [hA9, List.length_take]; omega
          obtain ⟨D, hD9⟩ : ∃ D, D = l.drop (k + 1) := ⟨_, rfl⟩
          have hDl : D.length = l.length - (k + 1) := by rw [hD9, List.length_drop]
          have hsl1 : ∀ W, (Instr.slice 29 (.slice (some ⟨b, off, none⟩) l.length cap) none (some (.int .i64 (k : Int))) none).run Try.prog W = .ok (.slice (some ⟨b, off, none⟩) A.length cap) W := fun W => by rw [hAl]; exact slice_headE W b off l.length cap k (k : Int) rfl (by omega)
          have hsl2 := fun W => slice_fromE W b off l.length cap (k + 1) ((k : Int) + 1) (by omega) (by omega)
          rw [← hDl] at hsl2
          have hat : ∀ W, Below w.heap.size w W → SeensAt W (some ⟨b, off, none⟩) A := fun W hW => by rw [hA9]; exact (HA.out.stays hW).take k
          have had : ∀ W, Below w.heap.size w W → SeensAt W (some ⟨b, fromE off cap (k + 1), none⟩) D := fun W hW => by rw [hD9]; exact (HA.out.stays hW).from (k + 1) hcap
          have HAt := hide hat
          have HAd := hide had
          have HAl := hide (show A.length ≤ 1048576 by omega)
          have HDl := hide (show D.length ≤ 1048576 by omega)
          have HIs : Hid (SeeIs l x k (k + 1)) := ⟨hk, HLo.out, .inl ⟨h, H2.out, rfl⟩⟩
          have HAD := hide (And.intro hA9 hD9)
          obtain ⟨p0, p1, _⟩ := two hb0.box
          clear hat had hb0 hsl9 hA9 hD9 hAl hDl hSB
          go_wp2_with (first | (at_builtin; (refine wpList_append_E rfl _ _ rfl ((wr.drewN nq).heap.size) (.slice (some ⟨wr.heap.size, 0, none⟩) 0 0) [] rfl (empty_atE _ rfl) (some ⟨b, off, none⟩) A cap rfl (HAt.out _ (HSn.out.below.alloc HSn.out.below.size _)) (by have := HAl.out; simp; omega) (base_alloc _ _) ?_; intro v1 w1 ho1 hg1 hn1; have hb1 := ((Below.refl _ (wr.drewN nq)).alloc (Nat.le_refl _) (.cells #[] 67)).grown hg1 (base_alloc _ _) (fun k hk => own_eq hk); have hS1 := HSn.out.step hb1; have HS1 := hide hS1; have HO1 := hide ho1; have HG1 := hide hb1.size; clear p0 p1 hg1 hn1 ho1 hb1; obtain ⟨p0, p1, _⟩ := two hS1.box; clear hS1)) | (at_builtin; (refine wpList_append_E rfl _ _ rfl ((wr.drewN nq).heap.size) _ A rfl (HO1.out.alloc _) (some ⟨w1.heap.size, 0, none⟩) [x] 1 rfl (one_seen w1 x.repl x.many _) (by have := HAl.out; simp; omega) (Nat.le_trans HG1.out (base_alloc _ _)) ?_; intro v2 w2 ho2 hg2 hn2; have hb2 := ((HS1.out.step (balloc0 w1 (.cells #[.int .i64 x.repl, .int .i64 x.many] 67))).below).grown hg2 (Nat.le_trans HS1.out.below.size (base_alloc _ _)) (fun k hk => Nat.le_trans HSn.out.below.size (own_baseE HO1.out k hk)); have hx2 := (hg2.block w.heap.size (Nat.lt_trans HSl.out (Nat.lt_of_lt_of_le (Nat.lt_of_le_of_lt HG1.out (Nat.lt_succ_self _)) (by rw [World.size_alloc]; exact Nat.le_refl _))) (fun e => by have := own_baseE HO1.out w.heap.size e.symm; have := HSl.out; omega)).trans (HS1.out.step (balloc0 w1 (.cells #[.int .i64 x.repl, .int .i64 x.many] 67))).box; have HS2 := hide (SeB.mk hx2 hb2); have HO2 := hide ho2; have HG2 := hide (Nat.le_trans (Nat.le_trans HG1.out (base_alloc _ _)) hg2.size); clear p0 p1 hg2 hn2 ho2 hb2; obtain ⟨p0, p1, _⟩ := two hx2; clear hx2)) | fail)
          clear c0 c1
          obtain ⟨c0, c1⟩ := HS0.out.block (w' := w2) (HS2.out.below.block b hlt)
          go_quiet (fail)
          go_wp2_with (first | (at_builtin; (refine wpList_append_E rfl _ _ rfl ((wr.drewN nq).heap.size) _ (A ++ [x]) rfl HO2.out (some ⟨b, fromE off cap (k + 1), none⟩) D (cap - (k + 1)) rfl (HAd.out _ (HS2.out.step (drewN_below _ _)).below) (by have := HAl.out; have := HDl.out; simp; omega) HG2.out ?_; intro v3 w3 ho3 hg3 hn3)) | fail)
          go_ret
          exact ⟨k, (k + 1), HIs.out, _, rfl, by rw [← HAD.out.1, ← HAD.out.2]; exact owns_downE ho3 HSn.out.below.size, ((HS2.out.step (drewN_below _ _)).below).grown hg3 (Nat.le_trans HSn.out.below.size HG2.out) (fun k hk => Nat.le_trans HSn.out.below.size (own_baseE HO2.out k hk))⟩
        · have e1 : (l[k].repl == x.repl) = false := by simpa using h2
          have H2 := hide h2
          have H1 := hide h1
          have HS0 := hide hs0
          clear h1 h2 hs0
          go_wp2_with fail
          go_quiet (fail)
          have hb0 := hSB.step (drewN_below wr nq)
          have HSn := hide hb0
          have hsl9 := (Array.getElem?_eq_some_iff.1 hb0.box).1
          have HSl := hide hsl9
          obtain ⟨A, hA9⟩ : ∃ A, A = l.take k := ⟨_, rfl⟩
          have hAl : A.length = k := by rw [hA9, List.length_take]; omega
          obtain ⟨D, hD9⟩ : ∃ D, D = l.drop k := ⟨_, rfl⟩
          have hDl : D.length = l.length - k := by rw [hD9, List.length_drop]
          have hsl1 : ∀ W, (Instr.slice 29 (.slice (some ⟨b, off, none⟩) l.length cap) none (some (.int .i64 (k : Int))) none).run Try.prog W = .ok (.slice (some ⟨b, off, none⟩) A.length cap) W := fun W => by rw [hAl]; exact slice_headE W b off l.length cap k (k : Int) rfl (by omega)
          have hsl2 := fun W => slice_fromE W b off l.length cap k (k : Int) (by omega) (by omega)
          rw [← hDl] at hsl2
          have hat : ∀ W, Below w.heap.size w W → SeensAt W (some ⟨b, off, none⟩) A := fun W hW => by rw [hA9]; exact (HA.out.stays hW).take k
          have had : ∀ W, Below w.heap.size w W → SeensAt W (some ⟨b, fromE off cap k, none⟩) D := fun W hW => by rw [hD9]; exact (HA.out.stays hW).from k hcap
          have HAt := hide hat
          have HAd := hide had
          have HAl := hide (show A.length ≤ 1048576 by omega)
          have HDl := hide (show D.length ≤ 1048576 by omega)
          have HIs : Hid (SeeIs l x k k) := ⟨hk, HLo.out, .inr ⟨fun _ => by have := H1.out; have := H2.out; omega, rfl⟩⟩
          have HAD := hide (And.intro hA9 hD9)
          obtain ⟨p0, p1, _⟩ := two hb0.box
          clear hat had hb0 hsl9 hA9 hD9 hAl hDl hSB
          go_wp2_with (first | (at_builtin; (refine wpList_append_E rfl _ _ rfl ((wr.drewN nq).heap.size) (.slice (some ⟨wr.heap.size, 0, none⟩) 0 0) [] rfl (empty_atE _ rfl) (some ⟨b, off, none⟩) A cap rfl (HAt.out _ (HSn.out.below.alloc HSn.out.below.size _)) (by have := HAl.out; simp; omega) (base_alloc _ _) ?_; intro v1 w1 ho1 hg1 hn1; have hb1 := ((Below.refl _ (wr.drewN nq)).alloc (Nat.le_refl _) (.cells #[] 67)).grown hg1 (base_alloc _ _) (fun k hk => own_eq hk); have hS1 := HSn.out.step hb1; have HS1 := hide hS1; have HO1 := hide ho1; have HG1 := hide hb1.size; clear p0 p1 hg1 hn1 ho1 hb1; obtain ⟨p0, p1, _⟩ := two hS1.box; clear hS1)) | (at_builtin; (refine wpList_append_E rfl _ _ rfl ((wr.drewN nq).heap.size) _ A rfl (HO1.out.alloc _) (some ⟨w1.heap.size, 0, none⟩) [x] 1 rfl (one_seen w1 x.repl x.many _) (by have := HAl.out; simp; omega) (Nat.le_trans HG1.out (base_alloc _ _)) ?_; intro v2 w2 ho2 hg2 hn2; have hb2 := ((HS1.out.step (balloc0 w1 (.cells #[.int .i64 x.repl, .int .i64 x.many] 67))).below).grown hg2 (Nat.le_trans HS1.out.below.size (base_alloc _ _)) (fun k hk => Nat.le_trans HSn.out.below.size (own_baseE HO1.out k hk)); have hx2 := (hg2.block w.heap.size (Nat.lt_trans HSl.out (Nat.lt_of_lt_of_le (Nat.lt_of_le_of_lt HG1.out (Nat.lt_succ_self _)) (by rw [World.size_alloc]; exact Nat.le_refl _))) (fun e => by have := own_baseE HO1.out w.heap.size e.symm; have := HSl.out; omega)).trans (HS1.out.step (balloc0 w1 (.cells #[.int .i64 x.repl, .int .i64 x.many] 67))).box; have HS2 := hide (SeB.mk hx2 hb2); have HO2 := hide ho2; have HG2 := hide (Nat.le_trans (Nat.le_trans HG1.out (base_alloc _ _)) hg2.size); clear p0 p1 hg2 hn2 ho2 hb2; obtain ⟨p0, p1, _⟩ := two hx2; clear hx2)) | fail)
          clear c0 c1
          obtain ⟨c0, c1⟩ := HS0.out.block (w' := w2) (HS2.out.below.block b hlt)
          go_quiet (fail)
          go_wp2_with (first | (at_builtin; (refine wpList_append_E rfl _ _ rfl ((wr.drewN nq).heap.size) _ (A ++ [x]) rfl HO2.out (some ⟨b, fromE off cap k, none⟩) D (cap - k) rfl (HAd.out _ (HS2.out.step (drewN_below _ _)).below) (by have := HAl.out; have := HDl.out; simp; omega) HG2.out ?_; intro v3 w3 ho3 hg3 hn3)) | fail)
          go_ret
          exact ⟨k, k, HIs.out, _, rfl, by rw [← HAD.out.1, ← HAD.out.2]; exact owns_downE ho3 HSn.out.below.size, ((HS2.out.step (drewN_below _ _)).below).grown hg3 (Nat.le_trans HSn.out.below.size HG2.out) (fun k hk => Nat.le_trans HSn.out.below.size (own_baseE HO2.out k hk))⟩
    · have dk : decide (k < l.length) = false := by simpa using h
      go_wp2_with fail
      go_quiet (fail)
      have hb0 := hSB.step (drewN_below wr nq)
      have HSn := hide hb0
      have hsl9 := (Array.getElem?_eq_some_iff.1 hb0.box).1
      have HSl := hide hsl9
      obtain ⟨A, hA9⟩ : ∃ A, A = l.take k := ⟨_, rfl⟩
      have hAl : A.length = k := by rw [hA9, List.length_take]; omega
      obtain ⟨D, hD9⟩ : ∃ D, D = l.drop k := ⟨_, rfl⟩
      have hDl : D.length = l.length - k := by rw [hD9, List.length_drop]
      have hsl1 : ∀ W, (Instr.slice 29 (.slice (some ⟨b, off, none⟩) l.length cap) none (some (.int .i64 (k : Int))) none).run Try.prog W = .ok (.slice (some ⟨b, off, none⟩) A.length cap) W := fun W => by rw [hAl]; exact slice_headE W b off l.length cap k (k : Int) rfl (by omega)
      have hsl2 := fun W => slice_fromE W b off l.length cap k (k : Int) (by omega) (by omega)
      rw [← hDl] at hsl2
      have hat : ∀ W, Below w.heap.size w W → SeensAt W (some ⟨b, off, none⟩) A := fun W hW => by rw [hA9]; exact (HA.out.stays hW).take k
      have had : ∀ W, Below w.heap.size w W → SeensAt W (some ⟨b, fromE off cap k, none⟩) D := fun W hW => by rw [hD9]; exact (HA.out.stays hW).from k hcap
      have HAt := hide hat
      have HAd := hide had
      have HAl := hide (show A.length ≤ 1048576 by omega)
      have HDl := hide (show D.length ≤ 1048576 by omega)
      have HIs : Hid (SeeIs l x k k) := ⟨hk, HLo.out, .inr ⟨fun hh => absurd hh h, rfl⟩⟩
      have HAD := hide (And.intro hA9 hD9)
      obtain ⟨p0, p1, _⟩ := two hb0.box
      clear hat had hb0 hsl9 hA9 hD9 hAl hDl hSB
      go_wp2_with (first | (at_builtin; (refine wpList_append_E rfl _ _ rfl ((wr.drewN nq).heap.size) (.slice (some ⟨wr.heap.size, 0, none⟩) 0 0) [] rfl (empty_atE _ rfl) (some ⟨b, off, none⟩) A cap rfl (HAt.out _ (HSn.out.below.alloc HSn.out.below.size _)) (by have := HAl.out; simp; omega) (base_alloc _ _) ?_; intro v1 w1 ho1 hg1 hn1; have hb1 := ((Below.refl _ (wr.drewN nq)).alloc (Nat.le_refl _) (.cells #[] 67)).grown hg1 (base_alloc _ _) (fun k hk => own_eq hk); have hS1 := HSn.out.step hb1; have HS1 := hide hS1; have HO1 := hide ho1; have HG1 := hide hb1.size; clear p0 p1 hg1 hn1 ho1 hb1; obtain ⟨p0, p1, _⟩ := two hS1.box; clear hS1)) | (at_builtin; (refine wpList_append_E rfl _ _ rfl ((wr.drewN nq).heap.size) _ A rfl (HO1.out.alloc _) (some ⟨w1.heap.size, 0, none⟩) [x] 1 rfl (one_seen w1 x.repl x.many _) (by have := HAl.out; simp; omega) (Nat.le_trans HG1.out (base_alloc _ _)) ?_; intro v2 w2 ho2 hg2 hn2; have hb2 := ((HS1.out.step (balloc0 w1 (.cells #[.int .i64 x.repl, .int .i64 x.many] 67))).below).grown hg2 (Nat.le_trans HS1.out.below.size (base_alloc _ _)) (fun k hk => Nat.le_trans HSn.out.below.size (own_baseE HO1.out k hk)); have hx2 := (hg2.block w.heap.size (Nat.lt_trans HSl.out (Nat.lt_of_lt_of_le (Nat.lt_of_le_of_lt HG1.out (Nat.lt_succ_self _)) (by rw [World.size_alloc]; exact Nat.le_refl _))) (fun e => by have := own_baseE HO1.out w.heap.size e.symm; have := HSl.out; omega)).trans (HS1.out.step (balloc0 w1 (.cells #[.int .i64 x.repl, .int .i64 x.many] 67))).box; have HS2 := hide (SeB.mk hx2 hb2); have HO2 := hide ho2; have HG2 := hide (Nat.le_trans (Nat.le_trans HG1.out (base_alloc _ _)) hg2.size); clear p0 p1 hg2 hn2 ho2 hb2; obtain ⟨p0, p1, _⟩ := two hx2; clear hx2)) | fail)
      go_quiet (fail)
      go_wp2_with (first | (at_builtin; (refine wpList_append_E rfl _ _ rfl ((wr.drewN nq).heap.size) _ (A ++ [x]) rfl HO2.out (some ⟨b, fromE off cap k, none⟩) D (cap - k) rfl (HAd.out _ (HS2.out.step (drewN_below _ _)).below) (by have := HAl.out; have := HDl.out; simp; omega) HG2.out ?_; intro v3 w3 ho3 hg3 hn3)) | fail)
      go_ret
      exact ⟨k, k, HIs.out, _, rfl, by rw [← HAD.out.1, ← HAD.out.2]; exact owns_downE ho3 HSn.out.below.size, ((HS2.out.step (drewN_below _ _)).below).grown hg3 (Nat.le_trans HSn.out.below.size HG2.out) (fun k hk => Nat.le_trans HSn.out.below.size (own_baseE HO2.out k hk))⟩
end Go.Proofs.Ytdjjpaleemnikaa.OpR
namespace Go.Proofs.Ytdjjpaleemnikaa.OpR
open Go.ChangeShapes Go.WideShapes Go.ChangeAt Go.RowKit
set_option linter.unusedVariables false

theorem step_copyO {ops : Array Oper} {o : Oper} {a : Act} {w : World} {K : Act → World → Prop} {Q : Exit → Act → World → Prop} {E : Prop} (hgd : o.guard = none) (s x : Operand)
    (ho : o.op = .call { callee := .builtin .append, args := #[s, x], argTypes := #[28, 28] }) (g : Nat) (hs : a.eval s = .slice (some ⟨g, 0, none⟩) 0 0) (he : w.heap[g]? = some (.cells #[] 59 (0, 0)))
    (base : Nat) (hb : base ≤ g) (ao : Option Addr) (m : List OpV) (c : Nat) (hx : a.eval x = .slice ao m.length c) (hA : OpsAt w ao m) (hlen : m.length ≤ 1048576)
    (h : ∀ v' w', w'.ownsRow base 59 7 v' m.length (flat m) → w.grownBy w' (some g) → (∀ k, v'.ownBlock = some k → k = g ∨ k = w.heap.size) → (∃ g' c', v' = .slice (some ⟨g', 0, none⟩) m.length c') → K (a.put o.dst v') w') : if Region.wanted o (yielded ops a.tmps) = true then Oper.wp Try.prog o a w K Q else E := by
  have hown : w.ownsRow base 59 7 (.slice (some ⟨g, 0, none⟩) 0 0) 0 [] := ⟨rfl, .inr ⟨g, 0, #[], rfl, hb, he, Nat.le_refl _, Nat.zero_le _, rfl, rfl⟩⟩
  have hgl := (Array.getElem?_eq_some_iff.1 he).1
  have hm : maxLen = 9223372036854775807 := rfl
  rw [if_pos (by simp [Region.wanted, hgd])]
  obtain ⟨i0, hi, hzz⟩ := Option.map_eq_some_iff.1 infoOp
  simp only [Prod.mk.injEq] at hzz
  obtain ⟨hz0, hz1, hz2⟩ := hzz
  cases ao with
  | some ad =>
    by_cases h0 : m.length = 0
    · have hrun : (Builtin.append_ #[28, 28] o.type #[.slice (some ⟨g, 0, none⟩) 0 0, .slice (some ad) 0 c]).run Try.prog w = .ok (.slice (some ⟨g, 0, none⟩) 0 0) w := by
        simp [Builtin.append_, run_underlying Try.underlying28, sizeOf, typeInfo, hi, Builtin.lenOf, Builtin.firstCells, loadCells, loadCellsFrom, storeCells]
      have hx' : a.eval x = .slice (some ad) 0 c := by rw [hx, h0]
      obtain rfl := List.eq_nil_of_length_eq_zero h0
      unfold Oper.wp execOp
      simp only [ho, resolve, invoke, builtin, Sem.run_bind, Sem.run_pure, Result.andThen_ok, List.map_toArray, List.map_cons, List.map_nil, hs, hx', hrun]
      exact h _ w hown ⟨rfl, rfl, rfl, Nat.le_refl _, fun _ _ _ => rfl⟩ (fun k hk => .inl (by simpa [Value.ownBlock, eq_comm] using hk)) ⟨g, 0, rfl⟩
    refine wp_append_lies w s x 28 ho base 59 i0 _ 7 72 Try.underlying28 hi hz0 hz1 hz2 rfl (by decide) _ 0 [] hs hown ad m.length c (flat m) hx (flat_len m) hA.news (flat_one m) (by omega) (by omega) (by omega) (by omega) w.heap.size rfl (fun g' cap' w' h1 h2 h3 _ => h _ w' (by simpa using h1) h2 (fun k hk => by
      have e : g' = k := by simpa [Value.ownBlock] using hk
      subst e
      rcases h3 with h3 | h3
      · exact .inl (by simpa [Value.ownBlock, eq_comm] using h3)
      · exact .inr h3) ⟨g', cap', by simp⟩)
  | none =>
    obtain rfl := hA.nil_of
    have hrun : (Builtin.append_ #[28, 28] o.type #[.slice (some ⟨g, 0, none⟩) 0 0, .slice none 0 c]).run Try.prog w = .ok (.slice (some ⟨g, 0, none⟩) 0 0) w := by
      simp [Builtin.append_, run_underlying Try.underlying28, sizeOf, typeInfo, hi, Builtin.lenOf, Builtin.firstCells, loadCells, storeCells]
    have hx' : a.eval x = .slice none 0 c := hx
    unfold Oper.wp execOp
    simp only [ho, resolve, invoke, builtin, Sem.run_bind, Sem.run_pure, Result.andThen_ok, List.map_toArray, List.map_cons, List.map_nil, hs, hx', hrun]
    exact h _ w hown ⟨rfl, rfl, rfl, Nat.le_refl _, fun _ _ _ => rfl⟩ (fun k hk => .inl (by simpa [Value.ownBlock, eq_comm] using hk)) ⟨g, 0, rfl⟩
theorem step_copyE {ops : Array Oper} {o : Oper} {a : Act} {w : World} {K : Act → World → Prop} {Q : Exit → Act → World → Prop} {E : Prop} (hgd : o.guard = none) (s x : Operand)
    (ho : o.op = .call { callee := .builtin .append, args := #[s, x], argTypes := #[29, 29] }) (g : Nat) (hs : a.eval s = .slice (some ⟨g, 0, none⟩) 0 0) (he : w.heap[g]? = some (.cells #[] 67 (0, 0)))
    (base : Nat) (hb : base ≤ g) (ao : Option Addr) (m : List SeenV) (c : Nat) (hx : a.eval x = .slice ao m.length c) (hA : SeensAt w ao m) (hlen : m.length ≤ 1048576)
    (h : ∀ v' w', w'.ownsRow base 67 2 v' m.length (flatG SeenV.cells m) → w.grownBy w' (some g) → (∀ k, v'.ownBlock = some k → k = g ∨ k = w.heap.size) → (∃ g' c', v' = .slice (some ⟨g', 0, none⟩) m.length c') → K (a.put o.dst v') w') : if Region.wanted o (yielded ops a.tmps) = true then Oper.wp Try.prog o a w K Q else E := by
  have hown : w.ownsRow base 67 2 (.slice (some ⟨g, 0, none⟩) 0 0) 0 [] := ⟨rfl, .inr ⟨g, 0, #[], rfl, hb, he, Nat.le_refl _, Nat.zero_le _, rfl, rfl⟩⟩
  have hgl := (Array.getElem?_eq_some_iff.1 he).1
  have hm : maxLen = 9223372036854775807 := rfl
  rw [if_pos (by simp [Region.wanted, hgd])]
  obtain ⟨i0, hi, hzz⟩ := Option.map_eq_some_iff.1 infoSeen
  simp only [Prod.mk.injEq] at hzz
  obtain ⟨hz0, hz1, hz2⟩ := hzz
  cases ao with
  | some ad =>
    by_cases h0 : m.length = 0
    · have hrun : (Builtin.append_ #[29, 29] o.type #[.slice (some ⟨g, 0, none⟩) 0 0, .slice (some ad) 0 c]).run Try.prog w = .ok (.slice (some ⟨g, 0, none⟩) 0 0) w := by
        simp [Builtin.append_, run_underlying Try.underlying29, sizeOf, typeInfo, hi, Builtin.lenOf, Builtin.firstCells, loadCells, loadCellsFrom, storeCells]
      have hx' : a.eval x = .slice (some ad) 0 c := by rw [hx, h0]
      obtain rfl := List.eq_nil_of_length_eq_zero h0
      unfold Oper.wp execOp
      simp only [ho, resolve, invoke, builtin, Sem.run_bind, Sem.run_pure, Result.andThen_ok, List.map_toArray, List.map_cons, List.map_nil, hs, hx', hrun]
      exact h _ w hown ⟨rfl, rfl, rfl, Nat.le_refl _, fun _ _ _ => rfl⟩ (fun k hk => .inl (by simpa [Value.ownBlock, eq_comm] using hk)) ⟨g, 0, rfl⟩
    refine wp_append_lies w s x 29 ho base 67 i0 _ 2 16 Try.underlying29 hi hz0 hz1 hz2 rfl (by decide) _ 0 [] hs hown ad m.length c (flatG SeenV.cells m) hx (flatG_len seen_len m) hA.news (oneE m) (by omega) (by omega) (by omega) (by omega) w.heap.size rfl (fun g' cap' w' h1 h2 h3 _ => h _ w' (by simpa using h1) h2 (fun k hk => by
      have e : g' = k := by simpa [Value.ownBlock] using hk
      subst e
      rcases h3 with h3 | h3
      · exact .inl (by simpa [Value.ownBlock, eq_comm] using h3)
      · exact .inr h3) ⟨g', cap', by simp⟩)
  | none =>
    obtain rfl := hA.nil_of
    have hrun : (Builtin.append_ #[29, 29] o.type #[.slice (some ⟨g, 0, none⟩) 0 0, .slice none 0 c]).run Try.prog w = .ok (.slice (some ⟨g, 0, none⟩) 0 0) w := by
      simp [Builtin.append_, run_underlying Try.underlying29, sizeOf, typeInfo, hi, Builtin.lenOf, Builtin.firstCells, loadCells, storeCells]
    have hx' : a.eval x = .slice none 0 c := hx
    unfold Oper.wp execOp
    simp only [ho, resolve, invoke, builtin, Sem.run_bind, Sem.run_pure, Result.andThen_ok, List.map_toArray, List.map_cons, List.map_nil, hs, hx', hrun]
    exact h _ w hown ⟨rfl, rfl, rfl, Nat.le_refl _, fun _ _ _ => rfl⟩ (fun k hk => .inl (by simpa [Value.ownBlock, eq_comm] using hk)) ⟨g, 0, rfl⟩
theorem heapT {X : World} {c : Array Value} {T : TypeId} {g : Nat} (h : X.heap.size = g) : (X.alloc (.cells c T)).heap[g]? = some (.cells c T (0, 0)) := by subst h; exact heap_alloc_new X _
theorem heapO {X : World} {o : Obj} {g : Nat} (h : g < X.heap.size) : (X.alloc o).heap[g]? = X.heap[g]? := (balloc0 X o).block g h
/-- A server in a variable, and the answer's own. -/
structure CB (w W : World) (s : SrvV) (la : Option Addr) (lc : Nat) (sa : Option Addr) (sc : Nat) : Prop where
  sb : SB w W s la lc sa sc
  res : W.heap[w.heap.size + 1]? = some (.cells #[.slice none 0 0, .slice none 0 0] 31 (0, 0))
section
variable {w W W' : World} {s : SrvV} {la : Option Addr} {lc : Nat} {sa : Option Addr} {sc : Nat}
theorem CB.lt (h : CB w W s la lc sa sc) : w.heap.size + 1 < W.heap.size := (Array.getElem?_eq_some_iff.1 h.res).1
theorem CB.step (h : CB w W s la lc sa sc) (hb : Below W.heap.size W W') : CB w W' s la lc sa sc := ⟨h.sb.step hb, (hb.block _ h.lt).trans h.res⟩
theorem CB.al (h : CB w W s la lc sa sc) (o : Obj) : CB w (W.alloc o) s la lc sa sc := h.step (balloc0 W o)
theorem CB.dr (h : CB w W s la lc sa sc) : CB w W.drew s la lc sa sc := h.step (Below.refl _ W).drew
theorem CB.gr (h : CB w W s la lc sa sc) {g : Nat} (hg : W.grownBy W' (some g)) (hge : w.heap.size + 2 ≤ g) : CB w W' s la lc sa sc :=
  have hlt := h.lt
  ⟨⟨(hg.block _ (by omega) (fun e => by cases e; omega)).trans h.sb.srv, h.sb.below.grown hg h.sb.below.size (fun k e => by cases e; omega)⟩, (hg.block _ hlt (fun e => by cases e; omega)).trans h.res⟩
theorem CB.below_ (h : CB w W s la lc sa sc) : Below w.heap.size w W := h.sb.below
theorem CB.alo (h : CB w W s la lc sa sc) : ∀ o, (W.alloc o).cell? ⟨w.heap.size, 0, none⟩ = some (.slice la s.ops.length lc) ∧ (W.alloc o).cell? ⟨w.heap.size, 1, none⟩ = some (.slice sa s.seen.length sc) := fun o => (h.al o).sb.cells
theorem CB.start (w : World) (s : SrvV) (la : Option Addr) (lc : Nat) (sa : Option Addr) (sc : Nat) : CB w ((w.alloc (.cells #[.slice la s.ops.length lc, .slice sa s.seen.length sc] 31)).alloc (.cells #[.slice none 0 0, .slice none 0 0] 31)) s la lc sa sc := by
  refine ⟨(SB.new w s la lc sa sc).step (balloc0 _ _), ?_⟩
  have h := heap_alloc_new (w.alloc (.cells #[.slice la s.ops.length lc, .slice sa s.seen.length sc] 31)) (.cells #[.slice none 0 0, .slice none 0 0] 31)
  rw [show (w.alloc (.cells #[.slice la s.ops.length lc, .slice sa s.seen.length sc] 31)).heap.size = w.heap.size + 1 by simp] at h
  exact h
end
/-- A server that the call owns. -/
def SrvOwn (w w' : World) (e : Ending) (s : SrvV) : Prop := ∃ a c b d, (∃ x, a = some ⟨x, 0, none⟩) ∧ (∃ y, b = some ⟨y, 0, none⟩) ∧ e = .returned (.agg #[.slice a s.ops.length c, .slice b s.seen.length d]) ∧ w'.ownsRow w.heap.size 59 7 (.slice a s.ops.length c) s.ops.length (flat s.ops) ∧ w'.ownsRow w.heap.size 67 2 (.slice b s.seen.length d) s.seen.length (flatG SeenV.cells s.seen) ∧ (∀ x y, a = some x → b = some y → x.block ≠ y.block) ∧ Below w.heap.size w w'
theorem copy_end {w wa W2 wb : World} {s : SrvV} {aa ab : Option Addr} {ca cb gb : Nat} (hx1 : ∃ x, aa = some ⟨x, 0, none⟩) (hx2 : ∃ y, ab = some ⟨y, 0, none⟩) (hoa : wa.ownsRow (w.heap.size + 2) 59 7 (.slice aa s.ops.length ca) s.ops.length (flat s.ops)) (hne : ∀ x, aa = some x → x.block ≠ gb) (hW : Below wa.heap.size wa W2) (hg : W2.grownBy wb (some gb))
    (hob : wb.ownsRow (w.heap.size + 2) 67 2 (.slice ab s.seen.length cb) s.seen.length (flatG SeenV.cells s.seen)) (hkb : ∀ k, (Value.slice ab s.seen.length cb).ownBlock = some k → k = gb ∨ k = W2.heap.size) (hb : Below w.heap.size w wb) (v0 v1 : Value) :
    SrvOwn w ((wb.setCell ⟨w.heap.size + 1, 0, none⟩ v0).setCell ⟨w.heap.size + 1, 1, none⟩ v1) (.returned (.agg #[.slice aa s.ops.length ca, .slice ab s.seen.length cb])) s := by
  have h1 := hoa.kept (row := none) ⟨hW.os, hW.tape, hW.output, hW.size, fun k hk _ => hW.block k hk⟩ (by cases hv : (Value.slice aa s.ops.length ca).ownBlock <;> simp)
  have h2 := h1.kept hg (by
    cases aa with
    | none => exact .inl rfl
    | some x => exact .inr (fun e => hne x rfl (by simpa [Value.ownBlock] using e)))
  have hlt : ∀ x, aa = some x → x.block < wa.heap.size := fun x e => (hoa.lt x.block (by rw [e]; rfl)).2
  refine ⟨aa, ca, ab, cb, hx1, hx2, rfl, ?_, ?_, fun x y ex ey e => ?_, ((hb.setCell (p := ⟨w.heap.size + 1, 0, none⟩) (by show w.heap.size ≤ w.heap.size + 1; omega) v0).setCell (p := ⟨w.heap.size + 1, 1, none⟩) (by show w.heap.size ≤ w.heap.size + 1; omega) v1)⟩
  · exact owns_base (ownsRow_setCell_other (ownsRow_setCell_other h2 (fun e => by have h3 : w.heap.size + 2 ≤ w.heap.size + 1 := (h2.lt _ e).1; omega) v0) (fun e => by have h3 : w.heap.size + 2 ≤ w.heap.size + 1 := (h2.lt _ e).1; omega) v1) (by omega)
  · exact owns_downE (ownsRow_setCell_other (ownsRow_setCell_other hob (fun e => by have h3 : w.heap.size + 2 ≤ w.heap.size + 1 := (hob.lt _ e).1; omega) v0) (fun e => by have h3 : w.heap.size + 2 ≤ w.heap.size + 1 := (hob.lt _ e).1; omega) v1) (by omega)
  · have h3 := hlt x ex
    have h4 := hne x ex
    have h5 := hW.size
    rcases hkb y.block (by rw [ey]; rfl) with h6 | h6 <;> omega
set_option maxRecDepth 100000 in
set_option maxHeartbeats 4000000 in
theorem sCopy_any (s : SrvV) (la sa : Option Addr) (lc sc : Nat) (w : World) (hl : s.ops.length ≤ 1048576) (hs : s.seen.length ≤ 1048576) (hA : OpsAt w la s.ops) (hB : SeensAt w sa s.seen) :
    Calls Try.prog 33 #[s.agg la lc sa sc] w fun e w' => SrvOwn w w' e s := by
  have hC0 := CB.start w s la lc sa sc
  have HC0 := hide hC0
  have HA := hide hA
  have HB := hide hB
  obtain ⟨p0, p1⟩ := hC0.sb.cells
  obtain ⟨r0, r1, fr⟩ := two hC0.res
  have pa := hC0.alo
  unfold SrvV.agg
  clear hA hB hC0
  go_enter Try.func33, Try.ntmps33
  go_wp2
  go_region_law (first | (refine step_copyO (by rfl) _ _ (by rfl) _ (by rfl) ?_ (w.heap.size + 2) ?_ la s.ops lc (by rfl) ?_ hl ?_; (· (first | exact heapT (by simp; done) | exact (heapO (by simp; done)).trans (heapT (by simp; done)) | exact (HGb.out.block _ (by simp; done) (by simp; done)).trans (heapT (by simp; done)) | exact (HGb.out.block _ (by simp; done) (by simp; done)).trans ((heapO (by simp; done)).trans (heapT (by simp; done))))); (· (first | (show _ ≤ _; omega) | (have := HCb.out.lt; omega))); (· exact HA.out.stays (CB.below_ (s := s) (la := la) (lc := lc) (sa := sa) (sc := sc) (by (first | exact HCb.out | exact HCb.out.dr | exact HCb.out.al _ | exact (HCb.out.al _).dr | exact HCa.out | exact HCa.out.dr | exact HCa.out.al _ | exact (HCa.out.al _).dr | exact HC0.out.al _ | exact (HC0.out.al _).dr | exact HC0.out.dr.al _ | exact (HC0.out.al _).al _ | exact ((HC0.out.al _).al _).dr | exact ((HC0.out.dr.al _).al _) | exact ((HC0.out.al _).dr.al _))))); (intro va wa hoa hga hka hva; obtain ⟨ga, ca, rfl⟩ := hva; have hCa : CB w wa s la lc sa sc := CB.gr (by (first | exact HCb.out | exact HCb.out.dr | exact HCb.out.al _ | exact (HCb.out.al _).dr | exact HCa.out | exact HCa.out.dr | exact HCa.out.al _ | exact (HCa.out.al _).dr | exact HC0.out.al _ | exact (HC0.out.al _).dr | exact HC0.out.dr.al _ | exact (HC0.out.al _).al _ | exact ((HC0.out.al _).al _).dr | exact ((HC0.out.dr.al _).al _) | exact ((HC0.out.al _).dr.al _))) hga (by (first | (show _ ≤ _; omega) | (have := HCb.out.lt; omega))); have HCa := hide hCa; have HGa := hide hga; have HOa := hide (And.intro hoa hka); clear hoa hga hka; try clear p0 p1 r0 r1 fr pa; obtain ⟨p0, p1⟩ := hCa.sb.cells; obtain ⟨r0, r1, fr⟩ := two hCa.res; have pa := hCa.alo; clear hCa)) | (refine step_copyE (by rfl) _ _ (by rfl) _ (by rfl) ?_ (w.heap.size + 2) ?_ sa s.seen sc (by rfl) ?_ hs ?_; (· (first | exact heapT (by simp; done) | exact (heapO (by simp; done)).trans (heapT (by simp; done)) | exact (HGa.out.block _ (by simp; done) (by simp; done)).trans (heapT (by simp; done)) | exact (HGa.out.block _ (by simp; done) (by simp; done)).trans ((heapO (by simp; done)).trans (heapT (by simp; done))))); (· (first | (show _ ≤ _; omega) | (have := HCa.out.lt; omega))); (· exact HB.out.stays (CB.below_ (s := s) (la := la) (lc := lc) (sa := sa) (sc := sc) (by (first | exact HCb.out | exact HCb.out.dr | exact HCb.out.al _ | exact (HCb.out.al _).dr | exact HCa.out | exact HCa.out.dr | exact HCa.out.al _ | exact (HCa.out.al _).dr | exact HC0.out.al _ | exact (HC0.out.al _).dr | exact HC0.out.dr.al _ | exact (HC0.out.al _).al _ | exact ((HC0.out.al _).al _).dr | exact ((HC0.out.dr.al _).al _) | exact ((HC0.out.al _).dr.al _))))); (intro vb wb hob hgb hkb hvb; obtain ⟨gb, cb, rfl⟩ := hvb; have hCb : CB w wb s la lc sa sc := CB.gr (by (first | exact HCb.out | exact HCb.out.dr | exact HCb.out.al _ | exact (HCb.out.al _).dr | exact HCa.out | exact HCa.out.dr | exact HCa.out.al _ | exact (HCa.out.al _).dr | exact HC0.out.al _ | exact (HC0.out.al _).dr | exact HC0.out.dr.al _ | exact (HC0.out.al _).al _ | exact ((HC0.out.al _).al _).dr | exact ((HC0.out.dr.al _).al _) | exact ((HC0.out.al _).dr.al _))) hgb (by (first | (show _ ≤ _; omega) | (have := HCa.out.lt; omega))); have HCb := hide hCb; have HGb := hide hgb; have HOb := hide (And.intro hob hkb); clear hob hgb hkb; try clear p0 p1 r0 r1 fr pa; obtain ⟨p0, p1⟩ := hCb.sb.cells; obtain ⟨r0, r1, fr⟩ := two hCb.res; have pa := hCb.alo; clear hCb)))
  all_goals (
    go_wp2
    refine bodyPost_ret (v := .agg #[.slice (some ⟨ga, 0, none⟩) s.ops.length ca, .slice (some ⟨gb, 0, none⟩) s.seen.length cb]) (by simp [results, Try.results33, go_sem, r0, r1]) rfl ?_
    refine copy_end ⟨_, rfl⟩ ⟨_, rfl⟩ HOa.out.1 (fun x e => ?_) ?_ HGb.out HOb.out.1 HOb.out.2 HCb.out.sb.below _ _
    · have h1 := HOa.out.2 x.block (by rw [e]; rfl)
      have h2 := (HOa.out.1.lt x.block (by rw [e]; rfl)).2
      intro h3
      simp at h1
      omega
    · first | exact Below.refl _ _ | exact (Below.refl _ _).drew | exact balloc0 _ _ | exact (balloc0 _ _).drew | exact (Below.refl _ _).drew.alloc (Nat.le_refl _) _)
end Go.Proofs.Ytdjjpaleemnikaa.OpR
