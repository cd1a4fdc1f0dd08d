/- Proves the tied card of the law FnExactGetText: at every text and place impl.GetText answers as spec.GetText does, field by field, and its arguments read as they did; the one condition (errors.errorType holds what its initialiser lays) is tied to the program's text. -/
import Derived.Test.YthmofcckjakhkacDoorCards
import Derived.Test.YthmofcckjakhkacDoorTie
import Derived.Test.YthmofcckjakhkacDoorTxtI
import Derived.OpenShut
import Derived.Deep.DeepHandedRow
import Derived.LaidHandle
import Derived.SevenTiedAt
namespace Go.Proofs.YthmofcckjakhkacDoor.GetR
open Go.ChangeShapes Go.WideShapes Go.ChangeAt Go.RowKit Go.ChangeMaps
set_option linter.unusedVariables false

set_option maxRecDepth 100000 in
set_option maxHeartbeats 400000 in
theorem eqText_same (t : ByteArray) (a c : Int) (w : World) :
    Calls Tryd.prog 10 #[txt t a c, txt t a c] w fun e w' => e = .returned (.bool true) ∧ Below w.heap.size w w' := by
  unfold txt
  go_enter Tryd.func10, Tryd.ntmps10
  go_wp2
  go_ret
  exact ⟨rfl, ((Below.refl _ _).alloc (Nat.le_refl _) _).alloc (by simp) _⟩

/-- One and the same answer of both gives true. -/
theorem lawT_of (t : ByteArray) (x c : Int) (s : ByteArray) (a : Int) (w : World) (h1 : ¬ 1048576 < s.size)
    (hS : ∀ w, Calls Tryd.prog 8 #[.string s, .int .i64 a] w fun e w' => e = .returned (txt t x c) ∧ Below w.heap.size w w')
    (hI : ∀ w', Below w.heap.size w w' → Calls Tryd.prog 9 #[.string s, .int .i64 a] w' fun e w2 => e = .returned (txt t x c) ∧ Below w'.heap.size w' w2) :
    Calls Tryd.prog 4 #[.string s, .int .i64 a] w fun e w' => e = .returned (.bool true) ∧ Below w.heap.size w w' := by
  have hE := eqText_same t x c
  unfold txt at hS hI hE
  go_enter Tryd.func4, Tryd.ntmps4
  go_wp2_with (first | (go_at_call 8; refine (hS _).mono ?_; rintro e w1 ⟨rfl, hb1⟩; have hI' := hI (w1.alloc (.cells #[.string t, .int .i64 x, .int .i64 c] 28)) (hb1.alloc hb1.size _)) | (go_at_call 9; refine hI'.mono ?_; rintro e w2 ⟨rfl, hb2⟩; obtain ⟨c0, c1, c2, f0, f1, f2, hlt⟩ := kept3 hb2 (g := w1.heap.size) (heap_alloc_new w1 _) (by simp)) | (go_at_call 10; refine (hE _).mono ?_; rintro e w3 ⟨rfl, hb3⟩))
  go_ret
  have k12 : Below w1.heap.size w1 w2 := ((Below.refl _ _).alloc (Nat.le_refl _) _).trans (hb2.mono (by simp))
  have k23 : Below w2.heap.size w2 w3 := ((Below.refl _ _).alloc (Nat.le_refl _) _).trans (hb3.mono (by simp))
  exact ⟨rfl, (hb1.trans (k12.mono hb1.size)).trans (k23.mono (Nat.le_trans hb1.size k12.size))⟩

theorem iText_fault (s : ByteArray) (a c : Int) (w : World) (hg : w.cell? ⟨0, 0, none⟩ = some handle)
    (hR : ∀ w, Calls Tryd.prog 13 #[.string s, .int .i64 a] w fun e w' => e = .returned (.tuple #[.string ⟨#[]⟩, .int .i64 0, .iface 41 (.agg #[.int .i64 c])]) ∧ Below w.heap.size w w') :
    Calls Tryd.prog 9 #[.string s, .int .i64 a] w fun e w' => e = .returned (txt ⟨#[]⟩ 0 c) ∧ Below w.heap.size w w' :=
  iText_of s ⟨#[]⟩ a 0 c _ w hR (fun w' hb => code_hit c w' (handle_at hb hg))

/-- Where GetNum tells a fault. -/
theorem lawT_fault (s : ByteArray) (a c : Int) (hc : c ≠ 0) (w : World) (h1 : ¬ 1048576 < s.size) (hg : w.cell? ⟨0, 0, none⟩ = some handle)
    (hS : ∀ w, Calls Tryd.prog 5 #[.string s, .int .i64 a] w fun e w' => e = .returned (num 0 0 c) ∧ Below w.heap.size w w')
    (hR : ∀ w, Calls Tryd.prog 11 #[.string s, .int .i64 a] w fun e w' => e = .returned (.tuple #[.int .i64 0, .int .i64 0, .iface 41 (.agg #[.int .i64 c])]) ∧ w' = w) :
    Calls Tryd.prog 4 #[.string s, .int .i64 a] w fun e w' => e = .returned (.bool true) ∧ Below w.heap.size w w' :=
  lawT_of _ _ _ s a w h1 (fun w => sText_fault s a c hc w hS) (fun w' hb => iText_fault s a c w' (handle_at hb hg) (fun w => rText_fault s a c w hR))

/-- Where GetNum tells a number. -/
theorem lawT_right (s : ByteArray) (a n x : Int) (w : World) (h1 : ¬ 1048576 < s.size) (hg : w.cell? ⟨0, 0, none⟩ = some handle) (hs : s.size ≤ 8000) (hx0 : 0 ≤ x) (hx1 : x ≤ s.size)
    (hS : ∀ w, Calls Tryd.prog 5 #[.string s, .int .i64 a] w fun e w' => e = .returned (num n x 0) ∧ Below w.heap.size w w')
    (hR : ∀ w, Calls Tryd.prog 11 #[.string s, .int .i64 a] w fun e w' => e = .returned (.tuple #[.int .i64 n, .int .i64 x, .nilIface]) ∧ w' = w) :
    Calls Tryd.prog 4 #[.string s, .int .i64 a] w fun e w' => e = .returned (.bool true) ∧ Below w.heap.size w w' := by
  by_cases h2 : n < 0 ∨ 8000 < n
  · exact lawT_of _ _ _ s a w h1 (fun w => sText_syn s a n x w h2 hS) (fun w' hb => iText_fault s a 3 w' (handle_at hb hg) (fun w => rText_syn s a n x w h2 hR))
  by_cases h3 : (s.size : Int) - n < x
  · exact lawT_of _ _ _ s a w h1 (fun w => sText_short s a n x w hs (by omega) (by omega) hx0 hx1 h3 hS) (fun w' hb => iText_fault s a 4 w' (handle_at hb hg) (fun w => rText_short s a n x w hs (by omega) (by omega) hx0 hx1 (by omega) hR))
  · exact lawT_of _ _ _ s a w h1 (fun w => sText_right s a n x w hs (by omega) (by omega) hx0 hx1 h3 hS) (fun w' hb => iText_of s _ a _ 0 .nilIface w' (fun w => rText_right s a n x w hs (by omega) (by omega) hx0 hx1 (by omega) hR) (fun w2 _ => code_nil w2))

set_option maxHeartbeats 400000 in
theorem law_getText (s : ByteArray) (a : Int) (w : World) (hs : s.size ≤ maxLen) (_ha : (Lit.int .i64 a).wf = true) (hg : w.cell? ⟨0, 0, none⟩ = some handle) :
    Calls Tryd.prog 4 #[.string s, .int .i64 a] w fun e w' => e = .returned (.bool true) ∧ Below w.heap.size w w' := by
  have hs' := hs
  unfold maxLen at hs
  by_cases h1 : 1048576 < s.size
  · go_enter Tryd.func4, Tryd.ntmps4
    go_wp2
    go_ret
    exact ⟨rfl, Below.refl _ _⟩
  by_cases h2 : 8000 < s.size
  · exact lawT_fault s a 2 (by decide) w h1 hg (fun w => sGet_size s a w hs' h2) (fun w => num_size s a w hs' h2)
  by_cases h3 : a < 0
  · exact lawT_fault s a 1 (by decide) w h1 hg (fun w => sGet_neg s a w (by omega) h3) (fun w => num_neg s a w (by omega) h3)
  by_cases h4 : (s.size : Int) ≤ a
  · exact lawT_fault s a 4 (by decide) w h1 hg (fun w => sGet_past s a w (by omega) (by omega) h4) (fun w => num_past s a w (by omega) (by omega) h4)
  · obtain ⟨b, rfl⟩ : ∃ b : Nat, a = (b : Int) := ⟨a.toNat, by omega⟩
    obtain ⟨⟨u, x, c⟩, ho⟩ : ∃ o, out s b = o := ⟨_, rfl⟩
    have hr := out_rng s b (by omega)
    rw [ho] at hr
    by_cases hc : c = 0
    · subst hc
      have e : numOf (out s b) = num (dec u) x 0 := by rw [ho]; exact if_pos rfl
      refine lawT_right s b (dec u) x w h1 hg (by omega) hr.2.2.1 hr.2.2.2.1 (fun w => ?_) (fun w => num_right s b w (by omega) (by omega) u x ho)
      rw [← e]; exact sGet_in s b w (by omega) (by omega)
    · obtain ⟨rfl, rfl⟩ := out_zero s b ho hc
      refine lawT_fault s b c hc w h1 hg (fun w => ?_) (fun w => num_wrong s b w (by omega) (by omega) c hc ho)
      rw [num_fault ho hc]; exact sGet_in s b w (by omega) (by omega)
end Go.Proofs.YthmofcckjakhkacDoor.GetR

namespace Go.Proofs.YthmofcckjakhkacDoor
open Go.ChangeShapes Go.WideShapes Go.ChangeAt Go.RowKit Go.ChangeMaps
set_option linter.unusedVariables false
theorem fnExactGetText_handle {W : World} (h : laidMetH Tryd.prog Rows.fnExactGetTextRow.laid W) : W.cell? ⟨0, 0, none⟩ = some (.iface 63 (.agg #[.pointer (some ⟨1, 34, none⟩)])) := by
  have h' : laidMet Tryd.prog [] W ∧ handlesMet Tryd.prog Rows.fnExactGetTextRow.laid W := h
  obtain ⟨name, u, ty, e1, e2, e3, e4, e5⟩ := h'.2 _ (List.mem_singleton.2 rfl)
  have en : name = [101, 114, 114, 111, 114] := (Option.some.inj e1).symm
  subst en
  obtain rfl : u = 63 := by
    refine Option.some.inj (e2.symm.trans ?_)
    kernel_rfl
  have hsz : Tryd.prog.types.size = 106 := by kernel_rfl
  have hone : ((List.range 106).filter fun t => Tryd.prog.rowNamed t [101, 114, 114, 111, 114]) = [34] := by kernel_rfl
  have hm : ty ∈ (List.range 106).filter fun t => Tryd.prog.rowNamed t [101, 114, 114, 111, 114] := List.mem_filter.2 ⟨List.mem_range.2 (by rw [← hsz]; exact e3), e4⟩
  rw [hone] at hm
  obtain rfl := List.mem_singleton.1 hm
  have hh : typeHandle Tryd.prog 34 = .pointer (some ⟨1, 34, none⟩) := by kernel_rfl
  rw [hh] at e5
  have hgn : Tryd.prog.globalNamed "errors.errorType" = some 0 := by kernel_rfl
  simpa using World.var?_cell hgn e5 0

theorem fnExactGetText_met (os : Os) : laidMetH Tryd.prog Rows.fnExactGetTextRow.laid (World.forCall ({ World.holding Tryd.prog os ⟨#[], #[], []⟩ with heap := (World.holding Tryd.prog os ⟨#[], #[], []⟩).heap.modify 0 fun | .cells _ t frozen => .cells #[.iface 63 (.agg #[.pointer (some ⟨1, 34, none⟩)])] t frozen | o => o } : World) (fun _ _ => 0) ⟨#[], #[.string ByteArray.empty, .int .i64 0], []⟩).memory :=
  laidMetH_of_parts (laidMet_nil _ _) (by kernel_rfl)
theorem fnExactGetText_reads (os : Os) {H : Type} (enc : TypeId × Value → H) : ∃ places, DataW.whole enc Tryd.prog (World.forCall ({ World.holding Tryd.prog os ⟨#[], #[], []⟩ with heap := (World.holding Tryd.prog os ⟨#[], #[], []⟩).heap.modify 0 fun | .cells _ t frozen => .cells #[.iface 63 (.agg #[.pointer (some ⟨1, 34, none⟩)])] t frozen | o => o } : World) (fun _ _ => 0) ⟨#[], #[.string ByteArray.empty, .int .i64 0], []⟩).memory Tryd.f4.params.toList Rows.fnExactGetTextSpec.vars false (#[.string ByteArray.empty, .int .i64 0] : Array Value).toList 8 = some ([.lit (.string []), .lit (.int .i64 0)], [], places) :=
  ⟨[], by kernel_rfl⟩

theorem fnExactGetText_contract (H : Type) (enc : TypeId × Value → H) (W : World) (base : Nat) (args : Array Value) (ds gs : List (DataW H)) (before : List MemPlace)
    (hval : ∀ (j : Nat) t v, Tryd.f4.params[j]? = some t → args[j]? = some v → Value.okWide Tryd.prog W .any base t v)
    (hW : DataW.Whole enc Tryd.prog Tryd.f4.params.toList Rows.fnExactGetTextSpec.vars false W args.toList ds gs before) (hL : laidMetH Tryd.prog Rows.fnExactGetTextRow.laid W) :
    Calls Tryd.prog 4 args W fun e W' => ∃ v, e = .returned v ∧ Rows.fnExactGetTextSpec.post enc Tryd.prog Tryd.f4 false true false false W args v W' := by
  have hW' := hW
  obtain ⟨p, q, hA0, hV, rfl, hfz, hnd⟩ := hW
  have hA : DataW.TrodAll enc Tryd.prog W 0 (fun _ => true) true Tryd.f4.params.toList args.toList ds p := hA0
  rw [Tryd.params4] at hA hval
  obtain ⟨v0, vs0, d0, ds0, p0, q0, hargs0, rfl, rfl, h0, r0⟩ := trodAll_cons hA
  obtain ⟨v1, vs1, d1, ds1, p1, q1, hargs1, rfl, rfl, h1, r1⟩ := trodAll_cons r0
  obtain ⟨rfl, rfl, rfl⟩ := trodAll_nil r1
  obtain rfl : args = #[v0, v1] := by cases args; simp_all
  obtain ⟨rfl, rfl⟩ := trodVars_none hV
  obtain ⟨a0, rfl, rfl, rfl, wa0⟩ := open_string Tryd.underlying9 (hval 0 9 v0 rfl rfl) h0
  obtain ⟨a1, rfl, rfl, rfl, wa1⟩ := open_int Tryd.underlying2 (hval 1 2 v1 rfl rfl) h1
  clear hA0
  simp only [List.append_nil] at hW'
  refine (GetR.law_getText a0 a1 W wa0 wa1 (fnExactGetText_handle hL)).mono fun e W' ⟨he, hw⟩ => ?_
  subst he
  exact ⟨_, rfl, _, _, _, [], [], [], hW', trodAll_mk1 (shut_bool Tryd.underlying4 _), trodAll_mk2 (shut_string Tryd.underlying9 wa0) (shut_int Tryd.underlying2 wa1), rfl, hw.frame _, fun h => by cases h⟩

set_option maxRecDepth 100000 in
theorem fnExactGetText_lifted (os : Os) (started : os.Started) (H : Type) (enc : TypeId × Value → H) (F : Stop.Interp) :
    ReturnsInHanded {} Tryd.checked os 4 .any ((OpenSpec.ofChange Rows.fnExactGetTextSpec).preRow enc Tryd.prog Tryd.f4 Rows.fnExactGetTextRow.domain false Rows.fnExactGetTextRow.laid) (((OpenSpec.ofChange Rows.fnExactGetTextSpec).at F).post enc Tryd.prog Tryd.f4 false true false false) := by
  obtain ⟨places, hx⟩ := fnExactGetText_reads os enc
  refine returnsInHanded_of_row (C := Tryd.checked) (s := OpenSpec.ofChange Rows.fnExactGetTextSpec) (by kernel_rfl) started (by kernel_rfl) Tryd.func4
    (witness_row_at (enc := enc) (C := Tryd.checked) false ({ World.holding Tryd.prog os ⟨#[], #[], []⟩ with heap := (World.holding Tryd.prog os ⟨#[], #[], []⟩).heap.modify 0 fun | .cells _ t frozen => .cells #[.iface 63 (.agg #[.pointer (some ⟨1, 34, none⟩)])] t frozen | o => o } : World) #[.string ByteArray.empty, .int .i64 0] rfl (by kernel_rfl) (by kernel_rfl) (by kernel_rfl)
      (OpenSpec.preRow_of_cond 8 hx (by kernel_rfl) (fun k hk => by cases hk) (by kernel_rfl) (fnExactGetText_met os))) ?_
  intro W base args ds gs before hval hW _ _ _ hL _ _
  exact fnExactGetText_contract H enc W base args ds gs before hval hW hL

theorem fnExactGetText_said : Rows.FnExactGetTextSaid :=
  OpenClaim.holds_of_cond 4 Tryd.f4 rfl rfl rfl rfl rfl rfl rfl ⟨rfl, rfl, rfl, rfl, rfl⟩ rfl rfl rfl rfl rfl (by kernel_rfl) Tryd.func4 (by kernel_rfl)
    (of_decide_eq_true (by kernel_rfl)) (by unfold Func.isWrapper; first | (rw [if_pos (by decide +kernel)]; kernel_rfl) | (rw [if_neg (by decide +kernel)]; exact ⟨rfl, rfl⟩))
    (fun os started H enc _ F => by rw [OpenClaim.pre_eq_preRow]; exact fnExactGetText_lifted os started H enc F)

theorem fnExactGetText_plain (f : FuncId) (fn : Func) (hf : Tryd.pinned.checked.prog.funcNamed Rows.fnExactGetTextRow.func = some f) (hfn : Tryd.pinned.checked.prog.funcs[f]? = some fn) :
    true = Tryd.pinned.checked.prog.looks [] ∧ ∀ (j : Nat) t, fn.params[j]? = some t → Tryd.pinned.checked.prog.wantsStandIn t = false := by
  obtain rfl : f = 4 := Option.some.inj ((show Tryd.prog.funcNamed Rows.fnExactGetTextRow.func = some 4 by kernel_rfl).symm.trans hf) |>.symm
  obtain rfl : fn = Tryd.f4 := (Option.some.inj (Tryd.func4.symm.trans hfn)).symm
  refine ⟨by kernel_rfl, fun j t ht => ?_⟩
  rw [Tryd.params4] at ht
  have hor : t = 9 ∨ t = 2 := by simpa using Array.mem_of_getElem? ht
  rcases hor with rfl | rfl
  · exact (show Tryd.prog.wantsStandIn 9 = false by kernel_rfl)
  · exact (show Tryd.prog.wantsStandIn 2 = false by kernel_rfl)

theorem fnExactGetText_card : Rows.FnExactGetTextCardSaid :=
  Claim7.holds_tied_plain_at .later [] _ _ _ _ fnExactGetText_said (fun _ h => by cases h) (by kernel_rfl) (fun _ h => by cases h) fnExactGetText_row_tie rfl ⟨rfl, rfl⟩ (by kernel_rfl) rfl fnExactGetText_plain (by kernel_rfl)
end Go.Proofs.YthmofcckjakhkacDoor
