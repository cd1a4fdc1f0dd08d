/- Proves what spec.Under tells. -/
import Derived.Test.YtcpgkalafkhlgafUndM
namespace Go.Proofs.Ytcpgkalafkhlgaf.OpR
open Go.ChangeShapes Go.WideShapes Go.ChangeAt Go.RowKit
set_option linter.unusedVariables false

theorem und_take {l : List NodG} {y : Int} {i : Nat} (h : i < l.length) : (l.take (i + 1)).countP (sbL l y) = (l.take i).countP (sbL l y) + if sbL l y l[i] = true then 1 else 0 := by
  rw [List.take_add_one, List.getElem?_eq_getElem h, List.countP_append]
  simp [List.countP_cons]
theorem cnt_le {l : List NodG} {y : Int} (i : Nat) : (l.take i).countP (sbL l y) ≤ l.length := Nat.le_trans List.countP_le_length (by simp; omega)
set_option maxRecDepth 100000 in
set_option maxHeartbeats 1000000 in
theorem sUnder_any (l : List NodG) (ao : Option Addr) (cap : Nat) (x : Int) (w : World) (hl : l.length ≤ 1048576) (hA : NodesAt w ao l) (hS : ∀ n ∈ l, Sized1 1048576 n) :
    Calls Try.prog 18 #[.agg #[.slice ao l.length cap], .int .i64 x] w fun e w' => e = .returned (.int .i64 (undB l x : Int)) ∧ Below w.heap.size w w' := by
  have htr := fun W (hW : Below w.heap.size w W) => sTree_any l ao cap W hl (hA.stays hW) hS
  have hpl := fun W (hW : Below w.heap.size w W) => sPlace_any l ao cap x W hl (hA.stays hW)
  have H1 := hide (Box1.start w (.slice ao l.length cap) 30)
  have HA := hide hA
  clear hA hS
  cases ht : treeRight l
  · have HF : Hid (undB l x = 0) := ⟨by simp [undB, ht]⟩
    simp only [ht] at htr
    clear hpl
    go_enter Try.func18, Try.ntmps18
    go_wp2_with (first | (go_at_call 23; refine (htr _ H1.out.below).mono ?_; rintro e w1 ⟨rfl, hb1⟩))
    go_ret
    exact ⟨by rw [HF.out]; rfl, (H1.out.step hb1).below⟩
  · have HTR := hide ((treeR_iff l).1 ht)
    simp only [ht] at htr
    cases hp : placeB l x
    · have HF : Hid (undB l x = 0) := ⟨by simp [undB, hp]⟩
      simp only [hp] at hpl
      clear ht
      go_enter Try.func18, Try.ntmps18
      go_wp2_with (first | (go_at_call 23; refine (htr _ H1.out.below).mono ?_; rintro e w1 ⟨rfl, hb1⟩; have hbx := H1.out.step hb1; have H2 := hide hbx; have hc := hbx.cell; clear hbx hb1) | (go_at_call 35; refine (hpl _ H2.out.below).mono ?_; rintro e w3 ⟨rfl, hb3⟩))
      go_ret
      exact ⟨by rw [HF.out]; rfl, (H2.out.step hb3).below⟩
    · have HF : Hid (undB l x = undN l x) := ⟨by simp [undB, ht, hp]⟩
      simp only [hp] at hpl
      have hup := fun (n : NodG) (hn : n ∈ l) W (hW : Below w.heap.size w W) => sUp_any l ao cap n.id x W hl (HA.out.stays hW) (tree_par HTR.out).1 (tree_par HTR.out).2 (tree_ends HTR.out (nodOf_mem HTR.out.2.1 hn))
      have HUP := hide hup
      clear ht hup
      go_enter Try.func18, Try.ntmps18
      go_wp2_with (first | (go_at_call 23; refine (htr _ H1.out.below).mono ?_; rintro e w1 ⟨rfl, hb1⟩; have hbx := H1.out.step hb1; have H2 := hide hbx; have hc := hbx.cell; clear hbx hb1) | (go_at_call 35; refine (hpl _ H2.out.below).mono ?_; rintro e w3 ⟨rfl, hb3⟩; have hbx := H2.out.step hb3; have H3 := hide hbx; clear hbx hb3 hc))
      go_loopw [5, 6] (fun m i wr => ∃ k : Nat, k ≤ l.length ∧ m = .int .i64 ((l.take k).countP (sbL l x) : Nat) ∧ i = .int .i64 k ∧ Box1 w wr w.heap.size (.slice ao l.length cap) 30) (fun _ i _ => l.length - (intOf i).toNat)
      case atStart => exact ⟨0, by omega, by simp, rfl, H3.out⟩
      case round =>
        obtain ⟨k, hk, rfl, rfl, hbx⟩ := hrel
        have HB := hide hbx
        have hc := hbx.cell
        by_cases h : k < l.length
        · obtain ⟨b, off, rfl, hlt, ho, _⟩ := HA.out k h
          obtain ⟨c0, _, _, _⟩ := ho.block (w' := wr) (hbx.below.block b hlt)
          obtain ⟨n, hn⟩ : ∃ n, l[k] = n := ⟨_, rfl⟩
          have HM : Hid (n ∈ l) := ⟨by rw [← hn]; exact List.getElem_mem h⟩
          have HO : Hid (NodAt w b (off + k * 4) n) := ⟨by rw [← hn]; exact ho⟩
          rw [hn] at c0
          have hi0 : (0 : Int) ≤ (k : Int) := by omega
          have hi1 : (k : Int) < (l.length : Int) := by omega
          have HT : Hid ((l.take (k + 1)).countP (sbL l x) = (l.take k).countP (sbL l x) + if sbL l x n = true then 1 else 0) := ⟨by rw [← hn]; exact und_take h⟩
          have hcl : (l.take k).countP (sbL l x) ≤ 1048576 := Nat.le_trans (cnt_le k) hl
          have hun := HUP.out n HM.out
          obtain ⟨cn, hcn⟩ : ∃ cn, (l.take k).countP (sbL l x) = cn := ⟨_, rfl⟩
          rw [hcn] at hcl HT ⊢
          clear ho hbx hn hcn
          by_cases hx : n.id = x
          · have HUn := hide hun
            have HE : Hid (cn + (if sbL l x n = true then 1 else 0) = cn) := ⟨by simp [sbL, hx]⟩
            subst hx
            clear hun
            go_wp2
            haveI : Nonempty (Cls fun W => Box1 w W w.heap.size (.slice (some ⟨b, off, none⟩) l.length cap) 30) := ⟨⟨wr, HB.out⟩⟩
            have T0 : ∀ q : (Cls fun W => Box1 w W w.heap.size (.slice (some ⟨b, off, none⟩) l.length cap) 30), q.wd.cell? ⟨w.heap.size, 0, none⟩ = some (.slice (some ⟨b, off, none⟩) l.length cap) := fun q => q.ok.cell
            have N0 : ∀ q : (Cls fun W => Box1 w W w.heap.size (.slice (some ⟨b, off, none⟩) l.length cap) 30), q.wd.cell? ⟨b, off + k * 4, none⟩ = some (.int .i64 n.id) := fun q => (HO.out.block (q.ok.below.block b hlt)).1
            refine wp_region_class (ι := (Cls fun W => Box1 w W w.heap.size (.slice (some ⟨b, off, none⟩) l.length cap) 30)) Cls.wd (by kernel_rfl) (by kernel_rfl) ⟨wr.drew, HB.out.drew⟩ rfl ?_
            clear hc c0
            repeat (go_big_quiet_step (first | (go_at_call 36; rename_i q; refine (HUn.out _ q.ok.below).mono ?_; rintro e w4 ⟨rfl, hb4⟩; exact ⟨rfl, ⟨w4, q.ok.step hb4⟩, rfl⟩)))
            refine wpQuiet_nil ?_
            rintro _ ⟨⟨w4, hV4⟩, rfl⟩
            have HV4 := hide hV4
            clear T0 N0 hV4
            go_wp2
            go_roundw
            case rel => exact ⟨k + 1, by omega, by rw [HT.out, HE.out], by go_num, HV4.out⟩
            case measure => simp [intOf]; omega
          · have hxb : (n.id != x) = true := by simpa using hx
            cases hab : abL l x n.id
            · have HUn := hide (fun W hW => by have := hun W hW; rw [show abF (par l) x (l.length + 1) n.id = false from hab] at this; exact this)
              have HE : Hid (cn + (if sbL l x n = true then 1 else 0) = cn) := ⟨by simp [sbL, hab]⟩
              clear hun hab
              go_wp2
              haveI : Nonempty (Cls fun W => Box1 w W w.heap.size (.slice (some ⟨b, off, none⟩) l.length cap) 30) := ⟨⟨wr, HB.out⟩⟩
              have T0 : ∀ q : (Cls fun W => Box1 w W w.heap.size (.slice (some ⟨b, off, none⟩) l.length cap) 30), q.wd.cell? ⟨w.heap.size, 0, none⟩ = some (.slice (some ⟨b, off, none⟩) l.length cap) := fun q => q.ok.cell
              have N0 : ∀ q : (Cls fun W => Box1 w W w.heap.size (.slice (some ⟨b, off, none⟩) l.length cap) 30), q.wd.cell? ⟨b, off + k * 4, none⟩ = some (.int .i64 n.id) := fun q => (HO.out.block (q.ok.below.block b hlt)).1
              refine wp_region_class (ι := (Cls fun W => Box1 w W w.heap.size (.slice (some ⟨b, off, none⟩) l.length cap) 30)) Cls.wd (by kernel_rfl) (by kernel_rfl) ⟨wr.drew, HB.out.drew⟩ rfl ?_
              clear hc c0
              repeat (go_big_quiet_step (first | (go_at_call 36; rename_i q; refine (HUn.out _ q.ok.below).mono ?_; rintro e w4 ⟨rfl, hb4⟩; exact ⟨rfl, ⟨w4, q.ok.step hb4⟩, rfl⟩)))
              refine wpQuiet_nil ?_
              rintro _ ⟨⟨w4, hV4⟩, rfl⟩
              have HV4 := hide hV4
              clear T0 N0 hV4
              go_wp2
              go_roundw
              case rel => exact ⟨k + 1, by omega, by rw [HT.out, HE.out], by go_num, HV4.out⟩
              case measure => simp [intOf]; omega
            · have HUn := hide (fun W hW => by have := hun W hW; rw [show abF (par l) x (l.length + 1) n.id = true from hab] at this; exact this)
              have HE : Hid (cn + (if sbL l x n = true then 1 else 0) = cn + 1) := ⟨by simp [sbL, hab, hx]⟩
              clear hun hab
              go_wp2
              haveI : Nonempty (Cls fun W => Box1 w W w.heap.size (.slice (some ⟨b, off, none⟩) l.length cap) 30) := ⟨⟨wr, HB.out⟩⟩
              have T0 : ∀ q : (Cls fun W => Box1 w W w.heap.size (.slice (some ⟨b, off, none⟩) l.length cap) 30), q.wd.cell? ⟨w.heap.size, 0, none⟩ = some (.slice (some ⟨b, off, none⟩) l.length cap) := fun q => q.ok.cell
              have N0 : ∀ q : (Cls fun W => Box1 w W w.heap.size (.slice (some ⟨b, off, none⟩) l.length cap) 30), q.wd.cell? ⟨b, off + k * 4, none⟩ = some (.int .i64 n.id) := fun q => (HO.out.block (q.ok.below.block b hlt)).1
              refine wp_region_class (ι := (Cls fun W => Box1 w W w.heap.size (.slice (some ⟨b, off, none⟩) l.length cap) 30)) Cls.wd (by kernel_rfl) (by kernel_rfl) ⟨wr.drew, HB.out.drew⟩ rfl ?_
              clear hc c0
              repeat (go_big_quiet_step (first | (go_at_call 36; rename_i q; refine (HUn.out _ q.ok.below).mono ?_; rintro e w4 ⟨rfl, hb4⟩; exact ⟨rfl, ⟨w4, q.ok.step hb4⟩, rfl⟩)))
              refine wpQuiet_nil ?_
              rintro _ ⟨⟨w4, hV4⟩, rfl⟩
              have HV4 := hide hV4
              clear T0 N0 hV4
              go_wp2
              go_roundw
              case rel => exact ⟨k + 1, by omega, by rw [HT.out, HE.out]; go_num, by go_num, HV4.out⟩
              case measure => simp [intOf]; omega
        · have hk2 : k = l.length := by omega
          subst hk2
          have HE : Hid ((l.take l.length).countP (sbL l x) = undN l x) := ⟨by rw [List.take_length]; rfl⟩
          go_wp2
          go_ret
          exact ⟨by rw [HF.out, HE.out]; rfl, HB.out.below⟩
end Go.Proofs.Ytcpgkalafkhlgaf.OpR
