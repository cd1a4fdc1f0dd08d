/- Proves what impl.Move and impl.Set answer. Proves what the harness does with what a hand tells: compared, marked, looked at. What a client's law keeps of its variables, over calls and marks. What a row that lists the seven errors of impl gives a walk: made by mksnz.py. -/
import Derived.Test.YtfkgmkcndchkjaaGreatDoorMgF
import Derived.Test.YtfkgmkcndchkjaaGreatDoorMgH
import Derived.Test.YtfkgmkcndchkjaaGreatDoorMgK
import Derived.Test.YtfkgmkcndchkjaaGreatDoorCliF
import Derived.Test.YtfkgmkcndchkjaaGreatDoorCliT
import Derived.Test.YtfkgmkcndchkjaaGreatDoorOpH
import Derived.Test.YtfkgmkcndchkjaaGreatDoorIsE
import Derived.Test.YtfkgmkcndchkjaaGreatDoorRows
import Derived.Stop.LaidErr
import Derived.LaidLaws
namespace Go.Proofs.YtfkgmkcndchkjaaGreatDoor.OpR
open Go.ChangeShapes Go.WideShapes Go.ChangeAt Go.RowKit
set_option linter.unusedVariables false

theorem put_sz {c : CliV} {o : OpV} (hz : CSz 1048576 c) (ho : opRight o = true) (hR : CliR c) : CSz 1048576 (putC c o) := by
  have h1 := hR.log.2.1
  have h2 := hR.few
  have h3 := right_sizes ho
  refine ⟨?_, ?_, fun y hy => ?_, fun y hy => ?_⟩
  · show (c.log ++ [o]).length ≤ _; rw [List.length_append]; show _ + 1 ≤ _; omega
  · show (c.out ++ [o]).length ≤ _; rw [List.length_append]; show _ + 1 ≤ _; omega
  · rcases List.mem_append.1 hy with h | h
    · exact hz.lsz y h
    · rw [List.mem_singleton.1 h]; exact h3
  · rcases List.mem_append.1 hy with h | h
    · exact hz.osz y h
    · rw [List.mem_singleton.1 h]; exact h3
/-- What impl.Move answers. -/
theorem iMoveC_any (c : CliV) (la oa : Option Addr) (lc oc : Nat) (x p : Int) (nm : ByteArray) (w : World) {f : Nat → Addr} (hS : Sents w f) (hz : CSz 1048576 c) (hlc : c.log.length ≤ lc) (hA : OpsAt w la c.log) (hC : OpsAt w oa c.out) (hnm : nm.size ≤ maxLen) :
    Calls Tryz.prog 12 #[c.agg la lc oa oc, .int .i64 x, .int .i64 p, .string nm] w fun e w' => ITold w w' e (actRes c (moveO c x p nm)) := by
  have hzm : CSz maxLen c := hz.mono (by unfold maxLen; omega)
  have bad : ∀ (code : Int), ErrCode code → (∀ g W, Below w.heap.size w W → HandAt W g c la lc oa oc → Calls Tryz.prog 47 #[.pointer (some ⟨g, 0, none⟩), .agg #[.int .i64 0, .int .i64 0, .int .i64 1, .int .i64 x, .int .i64 p, .string nm, .string ⟨#[]⟩]] W fun e w' => e = .returned (.tuple #[.agg #[.int .i64 0, .int .i64 0, .int .i64 0, .int .i64 0, .int .i64 0, .string ⟨#[]⟩, .string ⟨#[]⟩], errV f (gOf code)]) ∧ Below W.heap.size W w') →
      Calls Tryz.prog 12 #[c.agg la lc oa oc, .int .i64 x, .int .i64 p, .string nm] w fun e w' => ITold w w' e (OutV.ill code) := fun code hc h =>
    iMove_gen c c la oa lc oc x p nm OpV.zero (errV f (gOf code)) _ w (fun g W hW hH => (h g W hW hH).mono fun e w' h => ⟨la, lc, oa, oc, h.1, hH.step h.2, drewN_grown h.2, (hA.stays hW).stays h.2, (hC.stays hW).stays h.2⟩) (fun la2 lc2 oa2 oc2 W hW _ _ => told_ill (hS.step hW) hc c la2 oa2 lc2 oc2 OpV.zero 0)
  by_cases h0 : 8000 < nm.size
  · rw [act_size (o := (moveO c x p nm)) (.inl h0)]
    exact bad 2 (by unfold ErrCode; omega) fun g W hW hH => hact_size1 c la oa lc oc 1 x p nm ⟨#[]⟩ g W (hS.step hW) hzm hH (hA.stays hW) (hC.stays hW) hnm (by show (0 : Nat) ≤ maxLen; omega) h0
  have hs : ¬ (8000 < (moveO c x p nm).name.size ∨ 8000 < (moveO c x p nm).value.size) := by
    rintro (h | h)
    · exact h0 h
    · exact absurd h (by show ¬ 8000 < (0 : Nat); omega)
  cases hcr : cliRight c
  · rw [act_form hs hcr]
    exact bad 1 (by unfold ErrCode; omega) fun g W hW hH => hact_ill c la oa lc oc 1 x p nm ⟨#[]⟩ g W (hS.step hW) hzm hH (hA.stays hW) (hC.stays hW) hnm (by show (0 : Nat) ≤ maxLen; omega) h0 (by show ¬ 8000 < (0 : Nat); omega) hcr
  have hR := (cliR_iff c).1 hcr
  have hlog := log_yes hR.log
  by_cases ht : c.clock = 1000000
  · rw [act_time hs hcr ht]
    exact bad 9 (by unfold ErrCode; omega) fun g W hW hH => hact_time c la oa lc oc 1 x p nm ⟨#[]⟩ g W (hS.step hW) hzm hH (hA.stays hW) (hC.stays hW) hnm (by show (0 : Nat) ≤ maxLen; omega) h0 (by show ¬ 8000 < (0 : Nat); omega) hcr ht
  cases hop : opRight (moveO c x p nm)
  · rw [act_wrong hs hcr ht hop]
    exact bad 1 (by unfold ErrCode; omega) fun g W hW hH => hact_wrong c la oa lc oc 1 x p nm ⟨#[]⟩ g W (hS.step hW) hzm hH (hA.stays hW) (hC.stays hW) hnm (by show (0 : Nat) ≤ maxLen; omega) h0 (by show ¬ 8000 < (0 : Nat); omega) hcr ht hop
  have had := admit_mv c x p nm
  have hx2 : 2 ≤ x := by
    have h1 := hop
    unfold opRight at h1
    simp only [Bool.and_eq_true] at h1
    have h3 : isIn x 2 1000000 = true := h1.1.1.2
    unfold isIn at h3
    rw [Bool.and_eq_true] at h3
    exact of_decide_eq_true h3.1
  rw [may_is (tree_of_tof hlog rfl) hx2] at had
  cases hpl : placeB (tof c.log) p
  · rw [hpl] at had
    have had6 : admit c.log (moveO c x p nm) = 6 := had
    rw [act_place hs hcr ht hop (by rw [had6]; decide), had6]
    exact bad 6 (by unfold ErrCode; omega) fun g W hW hH => hact_place c la oa lc oc 1 x p nm ⟨#[]⟩ g W (hS.step hW) hzm hH (hA.stays hW) (hC.stays hW) hnm (by show (0 : Nat) ≤ maxLen; omega) h0 (by show ¬ 8000 < (0 : Nat); omega) hcr ht hop 6 (fun W2 hW2 => admits_mv_no c.log (moveO c x p nm) la lc W2 ((hS.step hW).step hW2) hlog hop ((hA.stays hW).stays hW2) hzm.lsz rfl hpl)
  cases hab : aboveB (tof c.log) p x
  case true =>
    rw [hpl, hab] at had
    have hadL : admit c.log (moveO c x p nm) = 10 := had
    rw [act_place hs hcr ht hop (by rw [hadL]; decide), hadL]
    exact bad 10 (by unfold ErrCode; omega) fun g W hW hH => hact_place c la oa lc oc 1 x p nm ⟨#[]⟩ g W (hS.step hW) hzm hH (hA.stays hW) (hC.stays hW) hnm (by show (0 : Nat) ≤ maxLen; omega) h0 (by show ¬ 8000 < (0 : Nat); omega) hcr ht hop 10 (fun W2 hW2 => admits_mv_loop c.log (moveO c x p nm) la lc W2 ((hS.step hW).step hW2) hlog hop ((hA.stays hW).stays hW2) hzm.lsz rfl hpl hab)
  rw [hpl, hab] at had
  have had : admit c.log (moveO c x p nm) = 0 := had
  have hadm : ∀ W, Below w.heap.size w W → Calls Tryz.prog 77 #[.slice la c.log.length lc, (moveO c x p nm).agg] W fun e w' => e = .returned .nilIface ∧ Below W.heap.size W w' := fun W hW => admits_mv_yes c.log (moveO c x p nm) la lc W (hS.step hW) hlog hop (hA.stays hW) hzm.lsz rfl hpl hab
  have hfew := hR.few
  by_cases h30 : c.out.length = 30
  · rw [act_full hs hcr ht hop had (.inl (by omega))]
    exact bad 9 (by unfold ErrCode; omega) fun g W hW hH => hact_full1 c la oa lc oc 1 x p nm ⟨#[]⟩ g W (hS.step hW) hzm hH (hA.stays hW) (hC.stays hW) hnm (by show (0 : Nat) ≤ maxLen; omega) h0 (by show ¬ 8000 < (0 : Nat); omega) hcr ht hop (fun W2 hW2 => hadm W2 (hW.trans (hW2.mono hW.size))) h30
  by_cases h150 : 150 ≤ c.log.length
  · rw [act_full hs hcr ht hop had (.inr h150)]
    exact bad 9 (by unfold ErrCode; omega) fun g W hW hH => hact_full2 c la oa lc oc 1 x p nm ⟨#[]⟩ g W (hS.step hW) hzm hH (hA.stays hW) (hC.stays hW) hnm (by show (0 : Nat) ≤ maxLen; omega) h0 (by show ¬ 8000 < (0 : Nat); omega) hlc hcr ht hop (fun W2 hW2 => hadm W2 (hW.trans (hW2.mono hW.size))) h30 h150
  rw [act_put hs hcr ht hop had (by omega)]
  exact iMove_gen c (putC c (moveO c x p nm)) la oa lc oc x p nm (moveO c x p nm) .nilIface _ w (fun g W hW hH => (hact_ok c la oa lc oc 1 x p nm ⟨#[]⟩ g W (hS.step hW) hzm hH (hA.stays hW) (hC.stays hW) hnm (by show (0 : Nat) ≤ maxLen; omega) h0 (by show ¬ 8000 < (0 : Nat); omega) hlc hcr ht hop (fun W2 hW2 => hadm W2 (hW.trans (hW2.mono hW.size))) h30 h150).mono fun e w' h => by
      obtain ⟨va, oa2, oc2, h1, h2, h3, h4, h5⟩ := h
      exact ⟨va, _, oa2, oc2, h1, h2, h3, h4, h5⟩) (fun la2 lc2 oa2 oc2 W hW h1 h2 => told_ok (putC c (moveO c x p nm)) la2 oa2 lc2 oc2 (moveO c x p nm) 0 W (put_sz hz hop hR) (right_sizes hop) h1 h2)
/-- What impl.Set answers. -/
theorem iSetC_any (c : CliV) (la oa : Option Addr) (lc oc : Nat) (x : Int) (nm vl : ByteArray) (w : World) {f : Nat → Addr} (hS : Sents w f) (hz : CSz 1048576 c) (hlc : c.log.length ≤ lc) (hA : OpsAt w la c.log) (hC : OpsAt w oa c.out) (hnm : nm.size ≤ maxLen) (hvl : vl.size ≤ maxLen) :
    Calls Tryz.prog 19 #[c.agg la lc oa oc, .int .i64 x, .string nm, .string vl] w fun e w' => ITold w w' e (actRes c (setO c x nm vl)) := by
  have hzm : CSz maxLen c := hz.mono (by unfold maxLen; omega)
  have bad : ∀ (code : Int), ErrCode code → (∀ g W, Below w.heap.size w W → HandAt W g c la lc oa oc → Calls Tryz.prog 47 #[.pointer (some ⟨g, 0, none⟩), .agg #[.int .i64 0, .int .i64 0, .int .i64 2, .int .i64 x, .int .i64 0, .string nm, .string vl]] W fun e w' => e = .returned (.tuple #[.agg #[.int .i64 0, .int .i64 0, .int .i64 0, .int .i64 0, .int .i64 0, .string ⟨#[]⟩, .string ⟨#[]⟩], errV f (gOf code)]) ∧ Below W.heap.size W w') →
      Calls Tryz.prog 19 #[c.agg la lc oa oc, .int .i64 x, .string nm, .string vl] w fun e w' => ITold w w' e (OutV.ill code) := fun code hc h =>
    iSet_gen c c la oa lc oc x nm vl OpV.zero (errV f (gOf code)) _ w (fun g W hW hH => (h g W hW hH).mono fun e w' h => ⟨la, lc, oa, oc, h.1, hH.step h.2, drewN_grown h.2, (hA.stays hW).stays h.2, (hC.stays hW).stays h.2⟩) (fun la2 lc2 oa2 oc2 W hW _ _ => told_ill (hS.step hW) hc c la2 oa2 lc2 oc2 OpV.zero 0)
  by_cases h0 : 8000 < nm.size
  · rw [act_size (o := (setO c x nm vl)) (.inl h0)]
    exact bad 2 (by unfold ErrCode; omega) fun g W hW hH => hact_size1 c la oa lc oc 2 x 0 nm vl g W (hS.step hW) hzm hH (hA.stays hW) (hC.stays hW) hnm hvl h0
  by_cases h00 : 8000 < vl.size
  · rw [act_size (o := (setO c x nm vl)) (.inr h00)]
    exact bad 2 (by unfold ErrCode; omega) fun g W hW hH => hact_size2 c la oa lc oc 2 x 0 nm vl g W (hS.step hW) hzm hH (hA.stays hW) (hC.stays hW) hnm hvl h0 h00
  have hs : ¬ (8000 < (setO c x nm vl).name.size ∨ 8000 < (setO c x nm vl).value.size) := by
    rintro (h | h)
    · exact h0 h
    · exact h00 h
  cases hcr : cliRight c
  · rw [act_form hs hcr]
    exact bad 1 (by unfold ErrCode; omega) fun g W hW hH => hact_ill c la oa lc oc 2 x 0 nm vl g W (hS.step hW) hzm hH (hA.stays hW) (hC.stays hW) hnm hvl h0 h00 hcr
  have hR := (cliR_iff c).1 hcr
  have hlog := log_yes hR.log
  by_cases ht : c.clock = 1000000
  · rw [act_time hs hcr ht]
    exact bad 9 (by unfold ErrCode; omega) fun g W hW hH => hact_time c la oa lc oc 2 x 0 nm vl g W (hS.step hW) hzm hH (hA.stays hW) (hC.stays hW) hnm hvl h0 h00 hcr ht
  cases hop : opRight (setO c x nm vl)
  · rw [act_wrong hs hcr ht hop]
    exact bad 1 (by unfold ErrCode; omega) fun g W hW hH => hact_wrong c la oa lc oc 2 x 0 nm vl g W (hS.step hW) hzm hH (hA.stays hW) (hC.stays hW) hnm hvl h0 h00 hcr ht hop
  have had := admit_st c x nm vl
  cases hpl : (nodOf (tof c.log) x).isSome
  · rw [hpl] at had
    have had6 : admit c.log (setO c x nm vl) = 6 := had
    rw [act_place hs hcr ht hop (by rw [had6]; decide), had6]
    exact bad 6 (by unfold ErrCode; omega) fun g W hW hH => hact_place c la oa lc oc 2 x 0 nm vl g W (hS.step hW) hzm hH (hA.stays hW) (hC.stays hW) hnm hvl h0 h00 hcr ht hop 6 (fun W2 hW2 => admits_set_no c.log (setO c x nm vl) la lc W2 ((hS.step hW).step hW2) hlog hop ((hA.stays hW).stays hW2) hzm.lsz rfl hpl)
  rw [hpl] at had
  have had : admit c.log (setO c x nm vl) = 0 := had
  have hadm : ∀ W, Below w.heap.size w W → Calls Tryz.prog 77 #[.slice la c.log.length lc, (setO c x nm vl).agg] W fun e w' => e = .returned .nilIface ∧ Below W.heap.size W w' := fun W hW => admits_set_yes c.log (setO c x nm vl) la lc W (hS.step hW) hlog hop (hA.stays hW) hzm.lsz rfl hpl
  have hfew := hR.few
  by_cases h30 : c.out.length = 30
  · rw [act_full hs hcr ht hop had (.inl (by omega))]
    exact bad 9 (by unfold ErrCode; omega) fun g W hW hH => hact_full1 c la oa lc oc 2 x 0 nm vl g W (hS.step hW) hzm hH (hA.stays hW) (hC.stays hW) hnm hvl h0 h00 hcr ht hop (fun W2 hW2 => hadm W2 (hW.trans (hW2.mono hW.size))) h30
  by_cases h150 : 150 ≤ c.log.length
  · rw [act_full hs hcr ht hop had (.inr h150)]
    exact bad 9 (by unfold ErrCode; omega) fun g W hW hH => hact_full2 c la oa lc oc 2 x 0 nm vl g W (hS.step hW) hzm hH (hA.stays hW) (hC.stays hW) hnm hvl h0 h00 hlc hcr ht hop (fun W2 hW2 => hadm W2 (hW.trans (hW2.mono hW.size))) h30 h150
  rw [act_put hs hcr ht hop had (by omega)]
  exact iSet_gen c (putC c (setO c x nm vl)) la oa lc oc x nm vl (setO c x nm vl) .nilIface _ w (fun g W hW hH => (hact_ok c la oa lc oc 2 x 0 nm vl g W (hS.step hW) hzm hH (hA.stays hW) (hC.stays hW) hnm hvl h0 h00 hlc hcr ht hop (fun W2 hW2 => hadm W2 (hW.trans (hW2.mono hW.size))) h30 h150).mono fun e w' h => by
      obtain ⟨va, oa2, oc2, h1, h2, h3, h4, h5⟩ := h
      exact ⟨va, _, oa2, oc2, h1, h2, h3, h4, h5⟩) (fun la2 lc2 oa2 oc2 W hW h1 h2 => told_ok (putC c (setO c x nm vl)) la2 oa2 lc2 oc2 (setO c x nm vl) 0 W (put_sz hz hop hR) (right_sizes hop) h1 h2)
end Go.Proofs.YtfkgmkcndchkjaaGreatDoor.OpR
namespace Go.Proofs.YtfkgmkcndchkjaaGreatDoor.OpR
open Go.ChangeShapes Go.WideShapes Go.ChangeAt Go.RowKit
set_option linter.unusedVariables false

/-- What is told, in a variable. -/
def Fif (W : World) (g : Nat) (x : OutV) (la : Option Addr) (lc : Nat) (oa : Option Addr) (oc : Nat) : Prop := W.heap[g]? = some (.cells #[.int .i64 x.cl.repl, .int .i64 x.cl.clock, .slice la x.cl.log.length lc, .int .i64 x.cl.acked, .slice oa x.cl.out.length oc, .int .i64 x.cl.got, .int .i64 x.op.time, .int .i64 x.op.repl, .int .i64 x.op.kind, .int .i64 x.op.node, .int .i64 x.op.parent, .string x.op.name, .string x.op.value, .int .i64 x.many, .int .i64 x.code] 32 (0, 0))
theorem Fif.lt {W : World} {g : Nat} {x : OutV} {la : Option Addr} {lc : Nat} {oa : Option Addr} {oc : Nat} (h : Fif W g x la lc oa oc) : g < W.heap.size := (Array.getElem?_eq_some_iff.1 h).1
theorem Fif.step {W W' : World} {g : Nat} {x : OutV} {la : Option Addr} {lc : Nat} {oa : Option Addr} {oc : Nat} (h : Fif W g x la lc oa oc) (hb : Below W.heap.size W W') : Fif W' g x la lc oa oc := (hb.block g h.lt).trans h
theorem Fif.keep {W W' : World} {g : Nat} {x : OutV} {la : Option Addr} {lc : Nat} {oa : Option Addr} {oc : Nat} (h : Fif W g x la lc oa oc) (hb : W'.heap[g]? = W.heap[g]?) : Fif W' g x la lc oa oc := hb.trans h
theorem Fif.new (W : World) (x : OutV) (la : Option Addr) (lc : Nat) (oa : Option Addr) (oc : Nat) : Fif (W.alloc (.cells #[.int .i64 x.cl.repl, .int .i64 x.cl.clock, .slice la x.cl.log.length lc, .int .i64 x.cl.acked, .slice oa x.cl.out.length oc, .int .i64 x.cl.got, .int .i64 x.op.time, .int .i64 x.op.repl, .int .i64 x.op.kind, .int .i64 x.op.node, .int .i64 x.op.parent, .string x.op.name, .string x.op.value, .int .i64 x.many, .int .i64 x.code] 32)) W.heap.size x la lc oa oc := heap_alloc_new W _
theorem Fif.cells {W : World} {g : Nat} {x : OutV} {la : Option Addr} {lc : Nat} {oa : Option Addr} {oc : Nat} (h : Fif W g x la lc oa oc) :
    W.cell? ⟨g, 0, none⟩ = some (.int .i64 x.cl.repl) ∧ W.cell? ⟨g, 1, none⟩ = some (.int .i64 x.cl.clock) ∧ W.cell? ⟨g, 2, none⟩ = some (.slice la x.cl.log.length lc) ∧ W.cell? ⟨g, 3, none⟩ = some (.int .i64 x.cl.acked) ∧ W.cell? ⟨g, 4, none⟩ = some (.slice oa x.cl.out.length oc) ∧ W.cell? ⟨g, 5, none⟩ = some (.int .i64 x.cl.got) ∧ W.cell? ⟨g, 6, none⟩ = some (.int .i64 x.op.time) ∧ W.cell? ⟨g, 7, none⟩ = some (.int .i64 x.op.repl) ∧ W.cell? ⟨g, 8, none⟩ = some (.int .i64 x.op.kind) ∧ W.cell? ⟨g, 9, none⟩ = some (.int .i64 x.op.node) ∧ W.cell? ⟨g, 10, none⟩ = some (.int .i64 x.op.parent) ∧ W.cell? ⟨g, 11, none⟩ = some (.string x.op.name) ∧ W.cell? ⟨g, 12, none⟩ = some (.string x.op.value) ∧ W.cell? ⟨g, 13, none⟩ = some (.int .i64 x.many) ∧ W.cell? ⟨g, 14, none⟩ = some (.int .i64 x.code) ∧ ∀ i, W.frozen? ⟨g, i, none⟩ = false := fif h
set_option maxRecDepth 100000 in
set_option maxHeartbeats 1000000 in
theorem eqClientOut_same (x : OutV) (la oa lb ob : Option Addr) (lc oc ld od : Nat) (w : World) (hl : x.cl.log.length ≤ maxLen) (ho : x.cl.out.length ≤ maxLen) (hA : OpsAt w la x.cl.log) (hC : OpsAt w oa x.cl.out) (hB : OpsAt w lb x.cl.log) (hD : OpsAt w ob x.cl.out) :
    Calls Tryz.prog 13 #[x.agg la lc oa oc, x.agg lb ld ob od] w fun e w' => e = .returned (.bool true) ∧ Below w.heap.size w w' := by
  have h1 := fun W (hW : Below w.heap.size w W) => eqClient_same x.cl la oa lb ob lc oc ld od W hl ho (hA.stays hW) (hC.stays hW) (hB.stays hW) (hD.stays hW)
  have h2 := fun W => eqOp_same x.op W
  have hF := Fif.new w x la lc oa oc
  have hb0 : Below w.heap.size w (w.alloc (.cells #[.int .i64 x.cl.repl, .int .i64 x.cl.clock, .slice la x.cl.log.length lc, .int .i64 x.cl.acked, .slice oa x.cl.out.length oc, .int .i64 x.cl.got, .int .i64 x.op.time, .int .i64 x.op.repl, .int .i64 x.op.kind, .int .i64 x.op.node, .int .i64 x.op.parent, .string x.op.name, .string x.op.value, .int .i64 x.many, .int .i64 x.code] 32)) := (Below.refl _ _).alloc (Nat.le_refl _) _
  have hG := Fif.new (w.alloc (.cells #[.int .i64 x.cl.repl, .int .i64 x.cl.clock, .slice la x.cl.log.length lc, .int .i64 x.cl.acked, .slice oa x.cl.out.length oc, .int .i64 x.cl.got, .int .i64 x.op.time, .int .i64 x.op.repl, .int .i64 x.op.kind, .int .i64 x.op.node, .int .i64 x.op.parent, .string x.op.name, .string x.op.value, .int .i64 x.many, .int .i64 x.code] 32)) x lb ld ob od
  have hb1 := hb0.alloc hb0.size (.cells #[.int .i64 x.cl.repl, .int .i64 x.cl.clock, .slice lb x.cl.log.length ld, .int .i64 x.cl.acked, .slice ob x.cl.out.length od, .int .i64 x.cl.got, .int .i64 x.op.time, .int .i64 x.op.repl, .int .i64 x.op.kind, .int .i64 x.op.node, .int .i64 x.op.parent, .string x.op.name, .string x.op.value, .int .i64 x.many, .int .i64 x.code] 32)
  have HF := hide (hF.step ((Below.refl _ _).alloc (Nat.le_refl _) (.cells #[.int .i64 x.cl.repl, .int .i64 x.cl.clock, .slice lb x.cl.log.length ld, .int .i64 x.cl.acked, .slice ob x.cl.out.length od, .int .i64 x.cl.got, .int .i64 x.op.time, .int .i64 x.op.repl, .int .i64 x.op.kind, .int .i64 x.op.node, .int .i64 x.op.parent, .string x.op.name, .string x.op.value, .int .i64 x.many, .int .i64 x.code] 32)))
  rw [show (w.alloc (.cells #[.int .i64 x.cl.repl, .int .i64 x.cl.clock, .slice la x.cl.log.length lc, .int .i64 x.cl.acked, .slice oa x.cl.out.length oc, .int .i64 x.cl.got, .int .i64 x.op.time, .int .i64 x.op.repl, .int .i64 x.op.kind, .int .i64 x.op.node, .int .i64 x.op.parent, .string x.op.name, .string x.op.value, .int .i64 x.many, .int .i64 x.code] 32)).heap.size = w.heap.size + 1 by simp] at hG
  have HG := hide hG
  have HB := hide hb1
  have H1 := hide h1
  have H2 := hide h2
  obtain ⟨p0, p1, p2, p3, p4, p5, p6, p7, p8, p9, p10, p11, p12, p13, p14, _⟩ := HF.out.cells
  obtain ⟨q0, q1, q2, q3, q4, q5, q6, q7, q8, q9, q10, q11, q12, q13, q14, _⟩ := HG.out.cells
  unfold OutV.agg
  unfold CliV.agg OpV.agg at *
  clear h1 h2 hA hC hB hD hF hG hb0 hb1 hl ho
  go_enter Tryz.func13, Tryz.ntmps13
  go_wp2_with (first | (go_at_call 14; (refine (H1.out _ HB.out).mono ?_); rintro e w1 ⟨rfl, hb1⟩; have HF1 := hide (HF.out.step hb1); have HG1 := hide (HG.out.step hb1); have HB1 := hide (HB.out.trans (hb1.mono HB.out.size)); clear p0 p1 p2 p3 p4 p5 p6 p7 p8 p9 p10 p11 p12 p13 p14 q0 q1 q2 q3 q4 q5 q6 q7 q8 q9 q10 q11 q12 q13 q14 hb1; obtain ⟨p0, p1, p2, p3, p4, p5, p6, p7, p8, p9, p10, p11, p12, p13, p14, _⟩ := HF1.out.cells; obtain ⟨q0, q1, q2, q3, q4, q5, q6, q7, q8, q9, q10, q11, q12, q13, q14, _⟩ := HG1.out.cells) | (go_at_call 49; (refine (H2.out _).mono ?_); rintro e w2 ⟨rfl, hb2⟩; have HF2 := hide (HF1.out.step hb2); have HG2 := hide (HG1.out.step hb2); have HB2 := hide (HB1.out.trans (hb2.mono HB1.out.size)); clear p0 p1 p2 p3 p4 p5 p6 p7 p8 p9 p10 p11 p12 p13 p14 q0 q1 q2 q3 q4 q5 q6 q7 q8 q9 q10 q11 q12 q13 q14 hb2; obtain ⟨p0, p1, p2, p3, p4, p5, p6, p7, p8, p9, p10, p11, p12, p13, p14, _⟩ := HF2.out.cells; obtain ⟨q0, q1, q2, q3, q4, q5, q6, q7, q8, q9, q10, q11, q12, q13, q14, _⟩ := HG2.out.cells) | fail)
  go_ret
  exact ⟨rfl, HB2.out⟩
set_option maxRecDepth 100000 in
set_option maxHeartbeats 1000000 in
theorem markClientOut_any (x : OutV) (la oa : Option Addr) (lc oc : Nat) (w : World) (hl : x.cl.log.length ≤ 1048576) (ho : x.cl.out.length ≤ 1048576) (hM : MarkC w x.cl la oa) :
    Calls Tryz.prog 16 #[x.agg la lc oa oc, .int .i64 1] w fun e w' => e = .returned (.int .i64 ((1 + 7 * x.cl.log.length + 7 * x.cl.out.length : Nat) : Int)) ∧ OpsAt w' la (marks 1 x.cl.log.length) ∧ OpsAt w' oa (marks (1 + 7 * x.cl.log.length) x.cl.out.length) ∧ Marked la oa w w' := by
  have hF := Fif.new w x la lc oa oc
  have hb0 : Below w.heap.size w (w.alloc (.cells #[.int .i64 x.cl.repl, .int .i64 x.cl.clock, .slice la x.cl.log.length lc, .int .i64 x.cl.acked, .slice oa x.cl.out.length oc, .int .i64 x.cl.got, .int .i64 x.op.time, .int .i64 x.op.repl, .int .i64 x.op.kind, .int .i64 x.op.node, .int .i64 x.op.parent, .string x.op.name, .string x.op.value, .int .i64 x.many, .int .i64 x.code] 32)) := (Below.refl _ _).alloc (Nat.le_refl _) _
  have h1 := markClient_any x.cl la oa lc oc 1 _ hl ho (by omega) (by omega) (hM.below hb0)
  rw [show ((1 : Nat) : Int) = 1 from rfl] at h1
  have HB := hide hb0
  have H1 := hide h1
  obtain ⟨p0, p1, p2, p3, p4, p5, p6, p7, p8, p9, p10, p11, p12, p13, p14, _⟩ := hF.cells
  unfold OutV.agg
  unfold CliV.agg at *
  clear h1 hF hb0 hM
  go_enter Tryz.func16, Tryz.ntmps16
  go_wp2_with (first | (go_at_call 15; (refine H1.out.mono ?_); rintro e w1 ⟨rfl, hx, hy, hm⟩; have HX := hide (And.intro hx (And.intro hy hm)); clear hx hy hm p0 p1 p2 p3 p4 p5 p6 p7 p8 p9 p10 p11 p12 p13 p14) | fail)
  go_ret
  obtain ⟨hx, hy, hm⟩ := HX.out
  have hb := HB.out
  exact ⟨rfl, hx, hy, hm.os.trans hb.os, hm.tape.trans hb.tape, hm.output.trans hb.output, Nat.le_trans hb.size hm.size, fun k hk h1 h2 => (hm.block k (by have := hb.size; omega) h1 h2).trans (hb.block k hk)⟩
set_option maxRecDepth 100000 in
set_option maxHeartbeats 1000000 in
theorem heldClientOut_any (x : OutV) (la oa : Option Addr) (lc oc : Nat) (w : World) (hl : x.cl.log.length ≤ 1048576) (ho : x.cl.out.length ≤ 1048576) (hA : OpsAt w la (marks 1 x.cl.log.length)) (hC : OpsAt w oa (marks (1 + 7 * x.cl.log.length) x.cl.out.length)) :
    Calls Tryz.prog 17 #[x.agg la lc oa oc, .int .i64 1] w fun e w' => e = .returned (.int .i64 ((1 + 7 * x.cl.log.length + 7 * x.cl.out.length : Nat) : Int)) ∧ Below w.heap.size w w' := by
  have hF := Fif.new w x la lc oa oc
  have hb0 : Below w.heap.size w (w.alloc (.cells #[.int .i64 x.cl.repl, .int .i64 x.cl.clock, .slice la x.cl.log.length lc, .int .i64 x.cl.acked, .slice oa x.cl.out.length oc, .int .i64 x.cl.got, .int .i64 x.op.time, .int .i64 x.op.repl, .int .i64 x.op.kind, .int .i64 x.op.node, .int .i64 x.op.parent, .string x.op.name, .string x.op.value, .int .i64 x.many, .int .i64 x.code] 32)) := (Below.refl _ _).alloc (Nat.le_refl _) _
  have h1 := heldClient_any x.cl la oa lc oc _ hl ho (hA.stays hb0) (hC.stays hb0)
  obtain ⟨m, hm⟩ : ∃ m : Nat, m = 1 + 7 * x.cl.log.length + 7 * x.cl.out.length := ⟨_, rfl⟩
  rw [← hm] at h1 ⊢
  have hneg : ¬ ((m : Int) < 0) := by omega
  have HB := hide hb0
  have H1 := hide h1
  obtain ⟨p0, p1, p2, p3, p4, p5, p6, p7, p8, p9, p10, p11, p12, p13, p14, _⟩ := hF.cells
  unfold OutV.agg
  unfold CliV.agg at *
  clear h1 hF hb0 hA hC hm
  go_enter Tryz.func17, Tryz.ntmps17
  go_wp2_with (first | (go_at_call 51; (refine H1.out.mono ?_); rintro e w1 ⟨rfl, hb1⟩; have HB1 := hide (HB.out.trans (hb1.mono HB.out.size))) | fail)
  all_goals (try (exfalso; omega))
  all_goals (
    go_ret
    exact ⟨rfl, HB1.out⟩)
end Go.Proofs.YtfkgmkcndchkjaaGreatDoor.OpR
namespace Go.Proofs.YtfkgmkcndchkjaaGreatDoor.OpR
open Go.ChangeShapes Go.WideShapes Go.ChangeAt Go.RowKit
set_option linter.unusedVariables false

theorem CliBox.marked {w W W' : World} {T : TypeId} {c : CliV} {la : Option Addr} {lc : Nat} {oa : Option Addr} {oc : Nat} {xa ya : Option Addr} (h : CliBox w W w.heap.size T c la lc oa oc) (hm : Marked xa ya W W') (h1 : ∀ a, xa = some a → w.heap.size + 1 ≤ a.block) (h2 : ∀ a, ya = some a → w.heap.size + 1 ≤ a.block) : CliBox w W' w.heap.size T c la lc oa oc :=
  ⟨(hm.block _ (Array.getElem?_eq_some_iff.1 h.1).1 (fun a e => by have := h1 a e; omega) (fun a e => by have := h2 a e; omega)).trans h.1, hm.below h.2 h.2.size (fun a e => by have := h1 a e; omega) (fun a e => by have := h2 a e; omega)⟩
theorem MarkOk.block_ {w w' : World} {ao : Option Addr} {n : Nat} (h : MarkOk w ao n) (hb : ∀ a, ao = some a → w'.heap[a.block]? = w.heap[a.block]?) : MarkOk w' ao n := by
  rcases h with ⟨g, N, rfl, hN, cs, e, hn⟩ | h
  · exact .inl ⟨g, N, rfl, hN, cs, (hb _ rfl).trans e, hn⟩
  · exact .inr h
/-- What the specification told, in a variable: all below N. -/
structure WS (N : Nat) (W : World) (V : Nat) (x : OutV) (la : Option Addr) (lc : Nat) (oa : Option Addr) (oc : Nat) : Prop where
  fif : Fif W V x la lc oa oc
  log : OLies N W la x.cl.log
  out : OLies N W oa x.cl.out
  low : V < N
theorem WS.new {W : World} {x : OutV} {la : Option Addr} {lc : Nat} {oa : Option Addr} {oc : Nat} (h1 : OpsAt W la x.cl.log) (h2 : OpsAt W oa x.cl.out) : WS (W.heap.size + 1) (W.alloc (.cells #[.int .i64 x.cl.repl, .int .i64 x.cl.clock, .slice la x.cl.log.length lc, .int .i64 x.cl.acked, .slice oa x.cl.out.length oc, .int .i64 x.cl.got, .int .i64 x.op.time, .int .i64 x.op.repl, .int .i64 x.op.kind, .int .i64 x.op.node, .int .i64 x.op.parent, .string x.op.name, .string x.op.value, .int .i64 x.many, .int .i64 x.code] 32)) W.heap.size x la lc oa oc :=
  ⟨Fif.new W x la lc oa oc, ⟨h1.stays ((Below.refl _ _).alloc (Nat.le_refl _) _), fun hne a e => Nat.lt_succ_of_lt ((OLies.of h1).low hne a e)⟩, ⟨h2.stays ((Below.refl _ _).alloc (Nat.le_refl _) _), fun hne a e => Nat.lt_succ_of_lt ((OLies.of h2).low hne a e)⟩, Nat.lt_succ_self _⟩
theorem WS.step {N : Nat} {W W' : World} {V : Nat} {x : OutV} {la : Option Addr} {lc : Nat} {oa : Option Addr} {oc : Nat} (h : WS N W V x la lc oa oc) (hb : Below W.heap.size W W') : WS N W' V x la lc oa oc := ⟨h.fif.step hb, h.log.stays hb, h.out.stays hb, h.low⟩
theorem OLies.marked {N : Nat} {W W' : World} {ao : Option Addr} {l : List OpV} {xa ya : Option Addr} (h : OLies N W ao l) (hm : Marked xa ya W W') (h1 : ∀ a, xa = some a → N ≤ a.block) (h2 : ∀ a, ya = some a → N ≤ a.block) : OLies N W' ao l :=
  ⟨fun j hj => by
    obtain ⟨b, off, e, hlt, ho⟩ := h.at_ j hj
    have hb := h.low (fun e0 => by rw [e0] at hj; exact absurd hj (by simp)) _ e
    exact ⟨b, off, e, Nat.lt_of_lt_of_le hlt hm.size, ho.block (hm.block b hlt (fun a ea => by have := h1 a ea; simp at hb; omega) (fun a ea => by have := h2 a ea; simp at hb; omega))⟩, h.low⟩
theorem WS.marked {N : Nat} {W W' : World} {V : Nat} {x : OutV} {la : Option Addr} {lc : Nat} {oa : Option Addr} {oc : Nat} {xa ya : Option Addr} (h : WS N W V x la lc oa oc) (hm : Marked xa ya W W') (h1 : ∀ a, xa = some a → N ≤ a.block) (h2 : ∀ a, ya = some a → N ≤ a.block) : WS N W' V x la lc oa oc :=
  ⟨h.fif.keep (hm.block _ h.fif.lt (fun a e => by have := h1 a e; have := h.low; omega) (fun a e => by have := h2 a e; have := h.low; omega)), h.log.marked hm h1 h2, h.out.marked hm h1 h2, h.low⟩
/-- What impl told, in a variable: none of it below N. -/
structure GS (N : Nat) (W : World) (V : Nat) (x : OutV) (gl go : Option Addr) : Prop where
  fif : Fif W V x gl x.cl.log.length go x.cl.out.length
  log : OpsAt W gl x.cl.log
  out : OpsAt W go x.cl.out
  mrk : MarkC W x.cl gl go
  ne1 : ∀ a, gl = some a → N ≤ a.block ∧ a.block < V
  ne2 : ∀ a, go = some a → N ≤ a.block ∧ a.block < V
  low : N ≤ V
theorem GS.new {N : Nat} {W : World} {x : OutV} {gl go : Option Addr} (h1 : OpsAt W gl x.cl.log) (h2 : OpsAt W go x.cl.out) (h3 : MarkC W x.cl gl go) (h4 : ∀ a, gl = some a → N ≤ a.block) (h5 : ∀ a, go = some a → N ≤ a.block) (h6 : N ≤ W.heap.size) : GS N (W.alloc (.cells #[.int .i64 x.cl.repl, .int .i64 x.cl.clock, .slice gl x.cl.log.length x.cl.log.length, .int .i64 x.cl.acked, .slice go x.cl.out.length x.cl.out.length, .int .i64 x.cl.got, .int .i64 x.op.time, .int .i64 x.op.repl, .int .i64 x.op.kind, .int .i64 x.op.node, .int .i64 x.op.parent, .string x.op.name, .string x.op.value, .int .i64 x.many, .int .i64 x.code] 32)) W.heap.size x gl go :=
  have hb := (Below.refl W.heap.size W).alloc (Nat.le_refl _) (.cells #[.int .i64 x.cl.repl, .int .i64 x.cl.clock, .slice gl x.cl.log.length x.cl.log.length, .int .i64 x.cl.acked, .slice go x.cl.out.length x.cl.out.length, .int .i64 x.cl.got, .int .i64 x.op.time, .int .i64 x.op.repl, .int .i64 x.op.kind, .int .i64 x.op.node, .int .i64 x.op.parent, .string x.op.name, .string x.op.value, .int .i64 x.many, .int .i64 x.code] 32)
  ⟨Fif.new W x gl _ go _, h1.stays hb, h2.stays hb, h3.below hb, fun a e => ⟨h4 a e, h3.log.lt a e⟩, fun a e => ⟨h5 a e, h3.out.lt a e⟩, h6⟩
theorem GS.step {N : Nat} {W W' : World} {V : Nat} {x : OutV} {gl go : Option Addr} (h : GS N W V x gl go) (hb : Below W.heap.size W W') : GS N W' V x gl go := ⟨h.fif.step hb, h.log.stays hb, h.out.stays hb, h.mrk.below hb, h.ne1, h.ne2, h.low⟩
theorem GS.marked {N : Nat} {W W' : World} {V : Nat} {x : OutV} {gl go : Option Addr} {xa ya : Option Addr} (h : GS N W V x gl go) (hm : Marked xa ya W W') (h1 : ∀ a, xa = some a → a.block < N) (h2 : ∀ a, ya = some a → a.block < N) : GS N W' V x gl go :=
  have a1 : ∀ a, gl = some a → W'.heap[a.block]? = W.heap[a.block]? := fun a e => hm.block _ (h.mrk.log.lt a e) (fun b eb => by have := h1 b eb; have := (h.ne1 a e).1; omega) (fun b eb => by have := h2 b eb; have := (h.ne1 a e).1; omega)
  have a2 : ∀ a, go = some a → W'.heap[a.block]? = W.heap[a.block]? := fun a e => hm.block _ (h.mrk.out.lt a e) (fun b eb => by have := h1 b eb; have := (h.ne2 a e).1; omega) (fun b eb => by have := h2 b eb; have := (h.ne2 a e).1; omega)
  ⟨h.fif.keep (hm.block _ h.fif.lt (fun b eb => by have := h1 b eb; have := h.low; omega) (fun b eb => by have := h2 b eb; have := h.low; omega)), h.log.block_ hm.size a1, h.out.block_ hm.size a2, ⟨h.mrk.log.block_ a1, h.mrk.out.block_ a2, h.mrk.apart⟩, h.ne1, h.ne2, h.low⟩
/-- The same with its rows marked. -/
structure GM (W : World) (V : Nat) (x : OutV) (gl go : Option Addr) : Prop where
  fif : Fif W V x gl x.cl.log.length go x.cl.out.length
  log : OpsAt W gl (marks 1 x.cl.log.length)
  out : OpsAt W go (marks (1 + 7 * x.cl.log.length) x.cl.out.length)
theorem GS.own {N : Nat} {W W' : World} {V : Nat} {x : OutV} {gl go : Option Addr} (h : GS N W V x gl go) (hm : Marked gl go W W') (h1 : OpsAt W' gl (marks 1 x.cl.log.length)) (h2 : OpsAt W' go (marks (1 + 7 * x.cl.log.length) x.cl.out.length)) : GM W' V x gl go :=
  ⟨h.fif.keep (hm.block _ h.fif.lt (fun a e => by have := (h.ne1 a e).2; omega) (fun a e => by have := (h.ne2 a e).2; omega)), h1, h2⟩
theorem GM.step {W W' : World} {V : Nat} {x : OutV} {gl go : Option Addr} (h : GM W V x gl go) (hb : Below W.heap.size W W') : GM W' V x gl go := ⟨h.fif.step hb, h.log.stays hb, h.out.stays hb⟩
theorem mark_ins {W : World} {c : CliV} {g3 g4 : Nat} (h3 : OpsIn W g3 30 c.log) (h4 : OpsIn W g4 30 c.out) (hne : g3 < g4) : MarkC W c (some ⟨g3, 0, none⟩) (some ⟨g4, 0, none⟩) :=
  ⟨.inl ⟨g3, _, rfl, Nat.le_refl _, opsArr c.log, h3, opsArr_size _⟩, .inl ⟨g4, _, rfl, Nat.le_refl _, opsArr c.out, h4, opsArr_size _⟩, fun x y ex ey => by cases ex; cases ey; show g3 ≠ g4; omega⟩
end Go.Proofs.YtfkgmkcndchkjaaGreatDoor.OpR
namespace Go.Proofs.YtfkgmkcndchkjaaGreatDoor.OpR
open Go.ChangeShapes Go.WideShapes Go.ChangeAt Go.RowKit
set_option linter.unusedVariables false

theorem sent_step {P : Program} {W : World} {n nm : String} {text : List UInt8} {r : List (String × DataW Unit)} {ps : List MemPlace} {g : Nat} {ti tp te ts : TypeId} {ms : Array (String × TypeId)} {f : Field}
    (h : DataW.LaidVars P W ((n, .iface nm (.ptr (.agg [.lit (.string text)]))) :: r) ps)
    (hg : P.globalNamed n = some g) (ht : (P.globals[g]?).map (·.type) = some ti)
    (hi : P.underlying ti = some (.interface ms)) (hrow : ∀ u, P.typeName? 3 u = some nm → u = tp)
    (hp : P.underlying tp = some (.pointer te)) (he : P.underlying te = some (.struct #[f])) (hft : f.type = ts) (hfo : f.offset = 0) (hs : P.underlying ts = some .string) (hc : P.cellsOf te = 1) (hcs : P.cellsOf ts = 1)
    (hrows : ∀ b off, MemPlace.cell b off ∈ ps → (∃ c t, W.heap[b]? = some (.cells c t (0, 0))) ∧ ∀ u v, W.cell? ⟨b, off, none⟩ = some (.iface u v) → Value.okWide P W .any 0 u v) :
    ∃ a q, DataW.LaidVars P W r q ∧ ps = .cell g 0 :: .cell a.block a.off :: q ∧ W.var? P n = some #[.iface tp (.pointer (some a))] ∧ ∃ c t, W.heap[a.block]? = some (.cells c t (0, 0)) := by
  obtain ⟨g', t', cs, fu, p, q, hg', ht', hv, hd, hq, e⟩ := h
  obtain rfl := Option.some.inj (hg.symm.trans hg')
  obtain rfl := Option.some.inj (ht.symm.trans ht')
  subst e
  obtain ⟨l⟩ := cs
  have ok : ∀ u v, l = [.iface u v] → Value.okWide P W .any 0 u v := fun u v e => by
    subst e
    exact (hrows g 0 (by simp [MemPlace.row])).2 u v (by simpa using World.var?_cell hg' hv 0)
  obtain ⟨a, s, rfl, hc0, hs0, hz0, rfl⟩ := errorString_of_trod hi hrow hp he hft hfo hs hc hcs hd ok
  exact ⟨a, q, hq, by simp [MemPlace.row], hv, (hrows a.block a.off (by simp [MemPlace.row])).1⟩
theorem seven_g {g : Nat} (h : g < 7) : g = 0 ∨ g = 1 ∨ g = 2 ∨ g = 3 ∨ g = 4 ∨ g = 5 ∨ g = 6 := by omega
def posE (g : Nat) : Nat := if g = 0 then 0 else if g = 1 then 1 else if g = 2 then 5 else if g = 3 then 2 else if g = 4 then 6 else if g = 5 then 3 else if g = 6 then 4 else g
theorem posE_lt : ∀ g, g < 7 → posE g < 7 := by decide
theorem posE_ne : ∀ g, g < 7 → ∀ h, h < 7 → g ≠ h → posE g ≠ posE h := by decide
theorem star_es : "*" ++ "errors.errorString" = "*errors.errorString" := by decide
theorem rowE (u : TypeId) (h : Tryz.prog.typeName? 3 u = some "*errors.errorString") : u = 235 :=
  typeName_ptr_named (nm := "errors.errorString") (by rw [star_es]; kernel_rfl) (by kernel_rfl) (by decide) u (by rw [star_es]; exact h)
theorem cellsES : Tryz.prog.cellsOf 258 = 1 := by kernel_rfl
theorem cellsSt : Tryz.prog.cellsOf 9 = 1 := by kernel_rfl
theorem varE_block {P : Program} {W W' : World} {n : String} {g : Nat} (hg : P.globalNamed n = some g) (hb : W'.heap[g]? = W.heap[g]?) : W'.var? P n = W.var? P n := by
  simp [World.var?, hg, hb]

theorem gn0 : Tryz.prog.globalNamed "loop.example/g00378/impl.errTooLong" = some 0 := by kernel_rfl
theorem gt0 : (Tryz.prog.globals[0]?).map (·.type) = some 80 := by kernel_rfl
theorem gn1 : Tryz.prog.globalNamed "loop.example/g00378/impl.errNotRight" = some 1 := by kernel_rfl
theorem gt1 : (Tryz.prog.globals[1]?).map (·.type) = some 80 := by kernel_rfl
theorem gn2 : Tryz.prog.globalNamed "loop.example/g00378/impl.errNoRoom" = some 2 := by kernel_rfl
theorem gt2 : (Tryz.prog.globals[2]?).map (·.type) = some 80 := by kernel_rfl
theorem gn3 : Tryz.prog.globalNamed "loop.example/g00378/impl.errNoSuch" = some 3 := by kernel_rfl
theorem gt3 : (Tryz.prog.globals[3]?).map (·.type) = some 80 := by kernel_rfl
theorem gn4 : Tryz.prog.globalNamed "loop.example/g00378/impl.errLoop" = some 4 := by kernel_rfl
theorem gt4 : (Tryz.prog.globals[4]?).map (·.type) = some 80 := by kernel_rfl
theorem gn5 : Tryz.prog.globalNamed "loop.example/g00378/impl.errAnother" = some 5 := by kernel_rfl
theorem gt5 : (Tryz.prog.globals[5]?).map (·.type) = some 80 := by kernel_rfl
theorem gn6 : Tryz.prog.globalNamed "loop.example/g00378/impl.errPlace" = some 6 := by kernel_rfl
theorem gt6 : (Tryz.prog.globals[6]?).map (·.type) = some 80 := by kernel_rfl
/-- The seven variables, and what they lead to. -/
structure Vars7 (W : World) (f : Nat → Addr) : Prop where
  v0 : W.var? Tryz.prog "loop.example/g00378/impl.errTooLong" = some #[.iface 235 (.pointer (some (f 0)))]
  v1 : W.var? Tryz.prog "loop.example/g00378/impl.errNotRight" = some #[.iface 235 (.pointer (some (f 1)))]
  v2 : W.var? Tryz.prog "loop.example/g00378/impl.errNoRoom" = some #[.iface 235 (.pointer (some (f 2)))]
  v3 : W.var? Tryz.prog "loop.example/g00378/impl.errNoSuch" = some #[.iface 235 (.pointer (some (f 3)))]
  v4 : W.var? Tryz.prog "loop.example/g00378/impl.errLoop" = some #[.iface 235 (.pointer (some (f 4)))]
  v5 : W.var? Tryz.prog "loop.example/g00378/impl.errAnother" = some #[.iface 235 (.pointer (some (f 5)))]
  v6 : W.var? Tryz.prog "loop.example/g00378/impl.errPlace" = some #[.iface 235 (.pointer (some (f 6)))]
theorem Vars7.step {W W' : World} {f : Nat → Addr} (h : Vars7 W f) (hb : ∀ g, g < 7 → W'.heap[g]? = W.heap[g]?) : Vars7 W' f :=
  ⟨(varE_block gn0 (hb 0 (by omega))).trans h.v0, (varE_block gn1 (hb 1 (by omega))).trans h.v1, (varE_block gn2 (hb 2 (by omega))).trans h.v2, (varE_block gn3 (hb 3 (by omega))).trans h.v3, (varE_block gn4 (hb 4 (by omega))).trans h.v4, (varE_block gn5 (hb 5 (by omega))).trans h.v5, (varE_block gn6 (hb 6 (by omega))).trans h.v6⟩
theorem sents_of_laid {W : World} (h : laidMet Tryz.prog Rows.fnExactMoveRow.laid W) : ∃ f, Sents W f ∧ Vars7 W f := by
  obtain ⟨ps, hl, hnd, hrows⟩ := h
  obtain ⟨a0, q0, hl, e0, v0, b0⟩ := sent_step hl gn0 gt0 Tryz.underlying80 rowE Tryz.underlying235 Tryz.underlying258 rfl rfl Tryz.underlying9 cellsES cellsSt hrows
  have hr1 : ∀ b off, MemPlace.cell b off ∈ q0 → _ := fun b off hm => hrows b off (by rw [e0]; exact List.mem_cons_of_mem _ (List.mem_cons_of_mem _ hm))
  obtain ⟨a1, q1, hl, e1, v1, b1⟩ := sent_step hl gn1 gt1 Tryz.underlying80 rowE Tryz.underlying235 Tryz.underlying258 rfl rfl Tryz.underlying9 cellsES cellsSt (fun b off hm => hr1 b off hm)
  have hr2 : ∀ b off, MemPlace.cell b off ∈ q1 → _ := fun b off hm => hr1 b off (by rw [e1]; exact List.mem_cons_of_mem _ (List.mem_cons_of_mem _ hm))
  obtain ⟨a3, q2, hl, e2, v3, b3⟩ := sent_step hl gn3 gt3 Tryz.underlying80 rowE Tryz.underlying235 Tryz.underlying258 rfl rfl Tryz.underlying9 cellsES cellsSt (fun b off hm => hr2 b off hm)
  have hr3 : ∀ b off, MemPlace.cell b off ∈ q2 → _ := fun b off hm => hr2 b off (by rw [e2]; exact List.mem_cons_of_mem _ (List.mem_cons_of_mem _ hm))
  obtain ⟨a5, q3, hl, e3, v5, b5⟩ := sent_step hl gn5 gt5 Tryz.underlying80 rowE Tryz.underlying235 Tryz.underlying258 rfl rfl Tryz.underlying9 cellsES cellsSt (fun b off hm => hr3 b off hm)
  have hr4 : ∀ b off, MemPlace.cell b off ∈ q3 → _ := fun b off hm => hr3 b off (by rw [e3]; exact List.mem_cons_of_mem _ (List.mem_cons_of_mem _ hm))
  obtain ⟨a6, q4, hl, e4, v6, b6⟩ := sent_step hl gn6 gt6 Tryz.underlying80 rowE Tryz.underlying235 Tryz.underlying258 rfl rfl Tryz.underlying9 cellsES cellsSt (fun b off hm => hr4 b off hm)
  have hr5 : ∀ b off, MemPlace.cell b off ∈ q4 → _ := fun b off hm => hr4 b off (by rw [e4]; exact List.mem_cons_of_mem _ (List.mem_cons_of_mem _ hm))
  obtain ⟨a2, q5, hl, e5, v2, b2⟩ := sent_step hl gn2 gt2 Tryz.underlying80 rowE Tryz.underlying235 Tryz.underlying258 rfl rfl Tryz.underlying9 cellsES cellsSt (fun b off hm => hr5 b off hm)
  have hr6 : ∀ b off, MemPlace.cell b off ∈ q5 → _ := fun b off hm => hr5 b off (by rw [e5]; exact List.mem_cons_of_mem _ (List.mem_cons_of_mem _ hm))
  obtain ⟨a4, q6, hl, e6, v4, b4⟩ := sent_step hl gn4 gt4 Tryz.underlying80 rowE Tryz.underlying235 Tryz.underlying258 rfl rfl Tryz.underlying9 cellsES cellsSt (fun b off hm => hr6 b off hm)
  have hr7 : ∀ b off, MemPlace.cell b off ∈ q6 → _ := fun b off hm => hr6 b off (by rw [e6]; exact List.mem_cons_of_mem _ (List.mem_cons_of_mem _ hm))
  have e7 : q6 = [] := hl
  rw [e0, e1, e2, e3, e4, e5, e6, e7] at hnd
  have hp : ([a0, a1, a3, a5, a6, a2, a4].map fun a => MemPlace.cell a.block a.off).Nodup := List.Pairwise.sublist (by
    simp only [List.map]
    exact (.cons _ (.cons_cons _ (.cons _ (.cons_cons _ (.cons _ (.cons_cons _ (.cons _ (.cons_cons _ (.cons _ (.cons_cons _ (.cons _ (.cons_cons _ (.cons _ (.cons_cons _ .slnil))))))))))))))) hnd
  have hq := List.pairwise_map.1 hp
  obtain ⟨F, hF⟩ : ∃ F : Nat → Addr, F = fun g => ([a0, a1, a3, a5, a6, a2, a4][g]?).getD a0 := ⟨_, rfl⟩
  have fa : ∀ i (hi : i < 7), F i = [a0, a1, a3, a5, a6, a2, a4][i]'(by simpa using hi) := fun i hi => by
    rw [hF]
    rcases seven_g hi with rfl | rfl | rfl | rfl | rfl | rfl | rfl <;> rfl
  have lt : ∀ i j, i < 7 → j < 7 → i < j → F i ≠ F j := fun i j hi hj hij e => by
    refine List.pairwise_iff_getElem.1 hq i j (by simpa using hi) (by simpa using hj) hij ?_
    rw [← fa i hi, ← fa j hj, e]
  obtain ⟨f, hf⟩ : ∃ f : Nat → Addr, f = fun g => F (posE g) := ⟨_, rfl⟩
  have f0 : f 0 = a0 := by rw [hf, hF]; rfl
  have f1 : f 1 = a1 := by rw [hf, hF]; rfl
  have f2 : f 2 = a2 := by rw [hf, hF]; rfl
  have f3 : f 3 = a3 := by rw [hf, hF]; rfl
  have f4 : f 4 = a4 := by rw [hf, hF]; rfl
  have f5 : f 5 = a5 := by rw [hf, hF]; rfl
  have f6 : f 6 = a6 := by rw [hf, hF]; rfl
  have ff : ∀ g, f g = F (posE g) := fun g => by rw [hf]
  have V : Vars7 W f := ⟨by rw [f0]; exact v0, by rw [f1]; exact v1, by rw [f2]; exact v2, by rw [f3]; exact v3, by rw [f4]; exact v4, by rw [f5]; exact v5, by rw [f6]; exact v6⟩
  have C : ∀ g, g < 7 → W.cell? ⟨g, 0, none⟩ = some (.iface 235 (.pointer (some (f g)))) := fun g hg => by
    rcases seven_g hg with rfl | rfl | rfl | rfl | rfl | rfl | rfl
    · simpa using World.var?_cell gn0 V.v0 0
    · simpa using World.var?_cell gn1 V.v1 0
    · simpa using World.var?_cell gn2 V.v2 0
    · simpa using World.var?_cell gn3 V.v3 0
    · simpa using World.var?_cell gn4 V.v4 0
    · simpa using World.var?_cell gn5 V.v5 0
    · simpa using World.var?_cell gn6 V.v6 0
  refine ⟨f, ⟨C, fun g hg => ?_, fun g h hg hh hne => ?_, fun g hg => ?_⟩, V⟩
  · rcases seven_g hg with rfl | rfl | rfl | rfl | rfl | rfl | rfl
    · rw [f0]; exact b0
    · rw [f1]; exact b1
    · rw [f2]; exact b2
    · rw [f3]; exact b3
    · rw [f4]; exact b4
    · rw [f5]; exact b5
    · rw [f6]; exact b6
  · have hpg := posE_lt g hg
    have hph := posE_lt h hh
    rw [ff g, ff h]
    rcases Nat.lt_or_gt_of_ne (posE_ne g hg h hh hne) with h1 | h1
    · exact lt _ _ hpg hph h1
    · exact fun e => lt _ _ hph hpg h1 e.symm
  · rcases Nat.lt_or_ge g W.heap.size with h' | h'
    · exact h'
    · have := C g hg
      simp [World.cell?, Array.getElem?_eq_none h'] at this
end Go.Proofs.YtfkgmkcndchkjaaGreatDoor.OpR
