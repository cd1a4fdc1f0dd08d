/- A row that the call owns: behind calls, and with one cell stored. -/
import Derived.Test.YtmidembbanlleafDoorTrS
namespace Go.Proofs.YtmidembbanlleafDoor.OpR
open Go.ChangeShapes Go.WideShapes Go.ChangeAt Go.RowKit
set_option linter.unusedVariables false

theorem owns_stays2 {w w' : World} {base : Nat} {T : TypeId} {c : Nat} {v : Value} {n : Nat} {xs : List Value} (h : w.ownsRow base T c v n xs) (hb : Below w.heap.size w w') : w'.ownsRow base T c v n xs :=
  h.kept (row := none) ⟨hb.os, hb.tape, hb.output, hb.size, fun k hk _ => hb.block k hk⟩ (by cases hv : v.ownBlock <;> simp)
theorem owns_store {w : World} {base : Nat} {T : TypeId} {c g n cap : Nat} {xs : List Value} (h : w.ownsRow base T c (.slice (some ⟨g, 0, none⟩) n cap) n xs) (p : Nat) (u : Value) :
    (w.setCell ⟨g, p, none⟩ u).ownsRow base T c (.slice (some ⟨g, 0, none⟩) n cap) n (xs.set p u) := by
  rcases h.2 with ⟨e, _⟩ | ⟨g', cap', cur, e, hb, hg, h1, h2, h3, h4⟩
  · cases e
  · simp only [Value.slice.injEq, Option.some.injEq, Addr.mk.injEq] at e
    obtain ⟨⟨rfl, _⟩, _, rfl⟩ := e
    refine ⟨by rw [List.length_set]; exact h.1, .inr ⟨g, cap, (cur.toList.set p u).toArray, rfl, hb, ?_, h1, h2, by simp [h3], ?_⟩⟩
    · have := puts_block (w := w) (g := g) (T := T) [u] cur.toList p w (by simpa using hg)
      exact this
    · rw [List.take_set, h4]
theorem flat_field {α : Type} {cs : α → List Value} {c : Nat} (hc : ∀ x, (cs x).length = c) : ∀ (l : List α) (k f : Nat) (hk : k < l.length) (u : Value) (x : α), f < c → cs x = (cs l[k]).set f u → (flatG cs l).set (k * c + f) u = flatG cs (l.set k x)
  | [], k, f, hk, u, x, hf, h => absurd hk (by simp)
  | y :: r, 0, f, hk, u, x, hf, h => by
    rw [List.set_cons_zero, flatG_cons, flatG_cons, Nat.zero_mul, Nat.zero_add, List.set_append_left _ _ (by rw [hc]; exact hf)]
    congr 1
    exact h.symm
  | y :: r, k + 1, f, hk, u, x, hf, h => by
    rw [List.set_cons_succ, flatG_cons, flatG_cons, flatG_up' hc, flat_field hc r k f (by simpa using hk) u x hf h]
theorem row_frozen {w : World} {base : Nat} {T : TypeId} {c g n cap : Nat} {xs : List Value} (h : w.ownsRow base T c (.slice (some ⟨g, 0, none⟩) n cap) n xs) (p : Nat) : w.frozen? ⟨g, p, none⟩ = false := by
  rcases h.2 with ⟨e, _⟩ | ⟨g', cap', cur, e, hb, hg, h1, h2, h3, h4⟩
  · cases e
  · simp only [Value.slice.injEq, Option.some.injEq, Addr.mk.injEq] at e
    obtain ⟨⟨rfl, _⟩, _, rfl⟩ := e
    simp [World.frozen?, hg]
end Go.Proofs.YtmidembbanlleafDoor.OpR
