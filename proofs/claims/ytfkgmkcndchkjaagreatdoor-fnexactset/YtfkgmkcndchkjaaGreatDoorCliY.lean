/- Proves what impl.Ack answers. -/
import Derived.Test.YtfkgmkcndchkjaaGreatDoorCliX
import Derived.Test.YtfkgmkcndchkjaaGreatDoorCliU
namespace Go.Proofs.YtfkgmkcndchkjaaGreatDoor.OpR
open Go.ChangeShapes Go.WideShapes Go.ChangeAt Go.RowKit
set_option linter.unusedVariables false

theorem ITold.lower {w c w' : World} {e : Ending} {x : OutV} (h : ITold c w' e x) (hb : Below w.heap.size w c) : ITold w w' e x := by
  obtain ⟨la, oa, h1, h2, h3, h4, h5, h6, h7⟩ := h
  exact ⟨la, oa, h1, h2, h3, h4, fun a ea => Nat.le_trans hb.size (h5 a ea), fun a ea => Nat.le_trans hb.size (h6 a ea), hb.trans (h7.mono hb.size)⟩
theorem FB.grown {w W W' : World} {c : CliV} {la : Option Addr} {lc : Nat} {oa : Option Addr} {oc : Nat} (h : FB w W c la lc oa oc) {g : Nat} (hg : W.grownBy W' (some g)) (hl : w.heap.size + 1 < g) : FB w W' c la lc oa oc :=
  ⟨⟨(hg.block _ (by have := h.lt; omega) (fun e => by cases e; omega)).trans h.cli.1, h.cli.2.grown hg h.cli.2.size (fun k e => by cases e; omega)⟩, (hg.block _ h.lt (fun e => by cases e; omega)).trans h.res⟩
theorem HandAt.new (W : World) (x : CliV) (la : Option Addr) (lc : Nat) (oa : Option Addr) (oc : Nat) : HandAt (W.alloc (.cells #[.slice la x.log.length lc, .int .i64 x.repl, .int .i64 x.clock, .int .i64 x.acked, .slice oa x.out.length oc, .int .i64 x.got] 77)) W.heap.size x la lc oa oc := heap_alloc_new W _
theorem MarkC.set15 {w : World} {g : Nat} {c : CliV} {la oa : Option Addr} (h : MarkC w c la oa) (h1 : ∀ a, la = some a → a.block ≠ g) (h2 : ∀ a, oa = some a → a.block ≠ g) (v0 v1 v2 v3 v4 v5 v6 v7 v8 v9 v10 v11 v12 v13 v14 : Value) : MarkC ((((((((((((((((w.setCell ⟨g, 0, none⟩ v0).setCell ⟨g, 1, none⟩ v1).setCell ⟨g, 2, none⟩ v2).setCell ⟨g, 3, none⟩ v3).setCell ⟨g, 4, none⟩ v4).setCell ⟨g, 5, none⟩ v5).setCell ⟨g, 6, none⟩ v6).setCell ⟨g, 7, none⟩ v7).setCell ⟨g, 8, none⟩ v8).setCell ⟨g, 9, none⟩ v9).setCell ⟨g, 10, none⟩ v10).setCell ⟨g, 11, none⟩ v11).setCell ⟨g, 12, none⟩ v12).setCell ⟨g, 13, none⟩ v13).setCell ⟨g, 14, none⟩ v14)) c la oa := by
  have go : ∀ {n : Nat} {ao : Option Addr}, (∀ a, ao = some a → a.block ≠ g) → MarkOk w ao n → MarkOk ((((((((((((((((w.setCell ⟨g, 0, none⟩ v0).setCell ⟨g, 1, none⟩ v1).setCell ⟨g, 2, none⟩ v2).setCell ⟨g, 3, none⟩ v3).setCell ⟨g, 4, none⟩ v4).setCell ⟨g, 5, none⟩ v5).setCell ⟨g, 6, none⟩ v6).setCell ⟨g, 7, none⟩ v7).setCell ⟨g, 8, none⟩ v8).setCell ⟨g, 9, none⟩ v9).setCell ⟨g, 10, none⟩ v10).setCell ⟨g, 11, none⟩ v11).setCell ⟨g, 12, none⟩ v12).setCell ⟨g, 13, none⟩ v13).setCell ⟨g, 14, none⟩ v14)) ao n := by
    intro n ao hne hm
    rcases hm with ⟨b, N, e, hN, cs, hb, hs⟩ | h
    · exact .inl ⟨b, N, e, hN, cs, other15 hb (hne _ e) _ _ _ _ _ _ _ _ _ _ _ _ _ _ _, hs⟩
    · exact .inr h
  exact ⟨go h1 h.log, go h2 h.out, h.apart⟩
theorem CSz.mono {a b : Nat} {c : CliV} (h : CSz a c) (hab : a ≤ b) : CSz b c := ⟨Nat.le_trans h.log hab, Nat.le_trans h.out hab, fun o ho => ⟨Nat.le_trans (h.lsz o ho).1 hab, Nat.le_trans (h.lsz o ho).2 hab⟩, fun o ho => ⟨Nat.le_trans (h.osz o ho).1 hab, Nat.le_trans (h.osz o ho).2 hab⟩⟩
theorem CSz.dropOut {a : Nat} {c : CliV} (h : CSz a c) (k : Nat) (m : Int) : CSz a ⟨c.repl, c.clock, c.log, m, c.out.drop k, c.got⟩ := ⟨h.log, by have := h.out; simp; omega, h.lsz, fun o ho => h.osz o (List.mem_of_mem_drop ho)⟩
theorem drewN_grown {a b : World} {g : Nat} (h : Below a.heap.size a b) : a.grownBy b (some g) := ⟨h.os, h.tape, h.output, h.size, fun k hk _ => h.block k hk⟩
end Go.Proofs.YtfkgmkcndchkjaaGreatDoor.OpR
