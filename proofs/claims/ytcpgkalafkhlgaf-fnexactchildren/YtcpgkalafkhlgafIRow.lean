/- Rows of numbers that the call owns; what the harness does with them. -/
import Derived.Test.YtcpgkalafkhlgafRowS
import Derived.Test.YtcpgkalafkhlgafMkP
namespace Go.Proofs.Ytcpgkalafkhlgaf.OpR
open Go.ChangeShapes Go.WideShapes Go.ChangeAt Go.RowKit
set_option linter.unusedVariables false

theorem infoInt : (Try.prog.info? 2).map (fun i => (i.zero, i.size, i.bytes)) = some (some (.int .i64 0), 1, 8) := by kernel_rfl
def ints (xs : List Int) : List Value := xs.map (.int .i64)
theorem ints_one (xs : List Int) : ∀ u ∈ ints xs, u.oneCell' = true := by
  intro u hu
  obtain ⟨t, _, rfl⟩ := List.mem_map.1 hu
  rfl
/-- The numbers of a slice. -/
def IntsAt (w : World) (ao : Option Addr) (xs : List Int) : Prop := ∀ j (hj : j < xs.length), ∃ b off, ao = some ⟨b, off, none⟩ ∧ b < w.heap.size ∧ w.cell? ⟨b, off + j, none⟩ = some (.int .i64 xs[j])
theorem IntsAt.stays {w w' : World} {ao : Option Addr} {xs : List Int} (h : IntsAt w ao xs) (hb : Below w.heap.size w w') : IntsAt w' ao xs := fun j hj => by
  obtain ⟨b, off, e, hlt, ho⟩ := h j hj
  exact ⟨b, off, e, Nat.lt_of_lt_of_le hlt hb.size, (by simpa only [World.cell?, hb.block b hlt] using ho)⟩
def IntRow (w : World) (base : Nat) (v : Value) (xs : List Int) : Prop := w.ownsRow base 2 1 v xs.length (ints xs)
theorem IntRow.at {w : World} {base : Nat} {v : Value} {xs : List Int} (h : IntRow w base v xs) : ∃ ao cap, v = .slice ao xs.length cap ∧ xs.length ≤ cap ∧ IntsAt w ao xs := by
  have h0 := h
  rcases h.2 with ⟨e, hn⟩ | ⟨g, cap, cur, rfl, hb, hg, hl, hm, hs, ht⟩
  · obtain rfl : xs = [] := List.eq_nil_of_length_eq_zero hn
    exact ⟨none, 0, e, Nat.le_refl _, fun j hj => absurd hj (by simp)⟩
  · refine ⟨some ⟨g, 0, none⟩, cap, rfl, hl, fun j hj => ⟨g, 0, rfl, (Array.getElem?_eq_some_iff.1 hg).1, ?_⟩⟩
    have hc := h0.cells rfl j (.int .i64 xs[j]) (by simp [ints, hj])
    rwa [Addr.add_lit] at hc
theorem IntRow.stays {w w' : World} {base : Nat} {v : Value} {xs : List Int} (h : IntRow w base v xs) (hb : Below w.heap.size w w') : IntRow w' base v xs := owns_stays2 h hb
theorem wpList_append_I {ops : Array Oper} {rest : List Oper} {o : Oper} {a : Act} {w : World} {Q : Exit → Act → World → Prop} (hgd : o.guard = none) (s x : Operand)
    (ho : o.op = .call { callee := .builtin .append, args := #[s, x], argTypes := #[26, 26] })
    (base : Nat) (v : Value) (out : List Int) (hs : a.eval s = v) (hown : IntRow w base v out)
    (ad : Addr) (m : List Int) (c : Nat) (hx : a.eval x = .slice (some ad) m.length c) (hn : ∀ j u, (ints m)[j]? = some u → w.cell? (ad.add j) = some u)
    (hlen : out.length + m.length ≤ 4000000) (hbase : base ≤ w.heap.size)
    (h : ∀ v' w', IntRow w' base v' (out ++ m) → w.grownBy w' v.ownBlock → wpList Try.prog ops Q rest (a.put o.dst v') w') : wpList Try.prog ops Q (o :: rest) a w := by
  obtain ⟨i0, hi, hzz⟩ := Option.map_eq_some_iff.1 infoInt
  simp only [Prod.mk.injEq] at hzz
  obtain ⟨hz0, hz1, hz2⟩ := hzz
  have hm : maxLen = 9223372036854775807 := rfl
  refine wpList_append_own _ hgd s x 26 ho base 2 i0 _ 1 8 Try.underlying26 hi hz0 hz1 hz2 rfl (by decide) v out.length (ints out) hs hown ad m.length c (ints m) hx (by simp [ints]) hn (ints_one m) (by omega) (by omega) hbase (fun v' w' h1 h2 h3 => h v' w' ?_ h2)
  unfold IntRow
  rw [List.length_append, show ints (out ++ m) = ints out ++ ints m by simp [ints]]
  exact h1
theorem newsI (x : World) (t0 : Int) (T : TypeId) : ∀ j u, (ints [t0])[j]? = some u → (x.alloc (.cells #[.int .i64 t0] T)).cell? ((⟨x.heap.size, 0, none⟩ : Addr).add j) = some u := by
  intro j u hu
  rw [Addr.add_lit, Nat.zero_add, World.cell?_alloc_at _ _ _ _ rfl]
  simpa [ints] using hu
theorem IntsAt.news {w : World} {b off : Nat} {xs : List Int} (h : IntsAt w (some ⟨b, off, none⟩) xs) : ∀ j u, (ints xs)[j]? = some u → w.cell? ((⟨b, off, none⟩ : Addr).add j) = some u := by
  intro j u hu
  have hj : j < xs.length := by simpa [ints] using (List.getElem?_eq_some_iff.1 hu).1
  obtain ⟨b', off', e, _, ho⟩ := h j hj
  cases e
  rw [Addr.add_lit, ho]
  simpa [ints, hj] using hu

set_option maxRecDepth 100000 in
set_option maxHeartbeats 400000 in
theorem eqInt64S_same (xs : List Int) (ao1 ao2 : Option Addr) (cap1 cap2 : Nat) (w : World) (hl : xs.length ≤ maxLen) (hA : IntsAt w ao1 xs) (hC : IntsAt w ao2 xs) :
    Calls Try.prog 11 #[.slice ao1 xs.length cap1, .slice ao2 xs.length cap2] w fun e w' => e = .returned (.bool true) ∧ Below w.heap.size w w' := by
  unfold maxLen at hl
  have HA := hide hA
  have HC := hide hC
  clear hA hC
  go_enter Try.func11, Try.ntmps11
  go_wp2
  go_loopw [5] (fun i wr => ∃ k : Nat, k ≤ xs.length ∧ i = .int .i64 k ∧ Below w.heap.size w wr) (fun i _ => xs.length - (intOf i).toNat)
  case atStart => exact ⟨0, by omega, rfl, Below.refl _ _⟩
  case round =>
    obtain ⟨k, hk, rfl, hb⟩ := hrel
    have HB := hide hb
    by_cases h : k < xs.length
    · obtain ⟨b1, o1, rfl, hl1, c1⟩ := (HA.out.stays hb) k h
      obtain ⟨b2, o2, rfl, hl2, c2⟩ := (HC.out.stays hb) k h
      have hi0 : (0 : Int) ≤ (k : Int) := by omega
      have hi1 : (k : Int) < (xs.length : Int) := by omega
      clear hb
      go_wp2_with fail
      go_region
      go_wp2
      go_roundw
      case rel => exact ⟨k + 1, by omega, by go_num, HB.out.drew⟩
      case measure => simp [intOf]; omega
    · obtain rfl : k = xs.length := by omega
      go_wp2
      go_ret
      exact ⟨rfl, HB.out⟩
/-- Numbers that are marked from k on. -/
def markI (k n : Nat) : List Int := (List.range n).map fun j => ((k + j : Nat) : Int)
theorem markI_len (k n : Nat) : (markI k n).length = n := by simp [markI]
theorem markI_get {k n j : Nat} (h : j < (markI k n).length) : (markI k n)[j] = ((k + j : Nat) : Int) := by simp [markI]
set_option maxRecDepth 100000 in
set_option maxHeartbeats 1000000 in
theorem markInt64S_some (xs : List Int) (g cap base k0 : Nat) (w : World) (hl : xs.length ≤ 1048576) (hk2 : k0 ≤ 1048576) (hO : IntRow w base (.slice (some ⟨g, 0, none⟩) xs.length cap) xs) :
    Calls Try.prog 14 #[.slice (some ⟨g, 0, none⟩) xs.length cap, .int .i64 (k0 : Int)] w fun e w' => e = .returned (.int .i64 ((k0 + xs.length : Nat) : Int)) ∧ IntsAt w' (some ⟨g, 0, none⟩) (markI k0 xs.length) ∧ w.grownBy w' (some g) := by
  have HO := hide hO
  have hml := markI_len k0 xs.length
  obtain ⟨M, hM⟩ : ∃ M, markI k0 xs.length = M := ⟨_, rfl⟩
  rw [hM] at hml ⊢
  have HM := hide hM
  have HML := hide hml
  clear hO hM hml
  go_enter Try.func14, Try.ntmps14
  go_wp2
  go_loopw [1, 5] (fun kv i wr => ∃ j : Nat, j ≤ xs.length ∧ i = .int .i64 j ∧ kv = .int .i64 ((k0 + j : Nat) : Int) ∧ wr.ownsRow base 2 1 (.slice (some ⟨g, 0, none⟩) xs.length cap) xs.length (ints (mixG M xs j)) ∧ w.grownBy wr (some g)) (fun _ i _ => xs.length - (intOf i).toNat)
  case atStart => exact ⟨0, by omega, rfl, by go_num, by rw [mixG_zero]; exact HO.out, grow_refl _ _⟩
  case round =>
    obtain ⟨j, hj, rfl, rfl, hR, hg⟩ := hrel
    have HR := hide hR
    have HG := hide hg
    clear hR hg
    obtain ⟨K, hK⟩ : ∃ K, k0 + j = K := ⟨_, rfl⟩
    have HK := hide hK
    have hK2 : K ≤ 3000000 := by omega
    rw [hK]
    clear hK
    by_cases h : j < xs.length
    · have hi0 : (0 : Int) ≤ (j : Int) := by omega
      have hi1 : (j : Int) < (xs.length : Int) := by omega
      have HL : Hid ((mixG M xs j).length = xs.length) := ⟨mixG_len HML.out hj⟩
      have c0 := row_cell HR.out (i := j) (by simp only [ints, List.length_map, HL.out]; exact h)
      have f0 := row_frozen HR.out j
      have hr2 := owns_store HR.out j (.int .i64 (K : Int))
      have he : (ints (mixG M xs j)).set j (.int .i64 (K : Int)) = ints (mixG M xs (j + 1)) := by
        have e := mixG_set HML.out h (by rw [HML.out]; exact h)
        have e2 : M[j]'(by rw [HML.out]; exact h) = (K : Int) := by
          have hm := HM.out
          subst hm
          rw [markI_get, HK.out]
        rw [e2] at e
        rw [← e]
        simp [ints, List.map_set]
      rw [he] at hr2
      have HR2 := hide hr2
      have HG2 := hide (grow_set HG.out j (.int .i64 (K : Int)))
      clear hr2 he
      go_wp2
      go_roundw
      case rel =>
        refine ⟨j + 1, by omega, by go_num, ?_, HR2.out, HG2.out⟩
        have := HK.out
        refine congrArg (Value.int .i64) ?_
        omega
      case measure => simp [intOf]; omega
    · obtain rfl : j = xs.length := by omega
      go_wp2
      go_ret
      refine ⟨by rw [← HK.out]; rfl, ?_, HG.out⟩
      have hf := HR.out
      rw [mixG_all HML.out] at hf
      have hf2 : IntRow wr base (.slice (some ⟨g, 0, none⟩) M.length cap) M := by unfold IntRow; rw [HML.out]; exact hf
      obtain ⟨a', c', e', _, h'⟩ := hf2.at
      simp only [Value.slice.injEq] at e'
      obtain ⟨rfl, _, _⟩ := e'
      exact h'
set_option maxRecDepth 100000 in
theorem markInt64S_none (k0 : Nat) (w : World) (hk2 : k0 ≤ 1048576) :
    Calls Try.prog 14 #[.slice none 0 0, .int .i64 (k0 : Int)] w fun e w' => e = .returned (.int .i64 (k0 : Int)) ∧ w = w' := by
  go_enter Try.func14, Try.ntmps14
  go_wp2
  go_loopw [1, 5] (fun kv i wr => i = .int .i64 0 ∧ kv = .int .i64 (k0 : Int) ∧ wr = w) (fun _ i _ => 0)
  case atStart => exact ⟨rfl, rfl, rfl⟩
  case round =>
    obtain ⟨rfl, rfl, rfl⟩ := hrel
    go_wp2
    go_ret
    exact ⟨rfl, rfl⟩
theorem markInt64S_any (xs : List Int) (ao : Option Addr) (cap base k0 : Nat) (w : World) (hl : xs.length ≤ 1048576) (hk2 : k0 ≤ 1048576) (hO : IntRow w base (.slice ao xs.length cap) xs) :
    Calls Try.prog 14 #[.slice ao xs.length cap, .int .i64 (k0 : Int)] w fun e w' => e = .returned (.int .i64 ((k0 + xs.length : Nat) : Int)) ∧ IntsAt w' ao (markI k0 xs.length) ∧ w.grownBy w' (Value.slice ao xs.length cap).ownBlock := by
  rcases hO.2 with ⟨e, hn⟩ | ⟨g, cap', cur, e, hb, hg, h1, h2, h3, h4⟩
  · obtain rfl : xs = [] := List.eq_nil_of_length_eq_zero hn
    simp only [Value.slice.injEq] at e
    obtain ⟨rfl, _, rfl⟩ := e
    refine (markInt64S_none k0 w hk2).mono ?_
    rintro e w' ⟨rfl, rfl⟩
    exact ⟨rfl, fun j hj => absurd hj (by simp [markI]), grow_refl _ _⟩
  · simp only [Value.slice.injEq] at e
    obtain ⟨rfl, _, rfl⟩ := e
    exact markInt64S_some xs g cap base k0 w hl hk2 hO
set_option maxRecDepth 100000 in
set_option maxHeartbeats 1000000 in
theorem heldInt64S_any (n k0 cap : Nat) (ao : Option Addr) (w : World) (hn : n ≤ 1048576) (hk2 : k0 ≤ 1048576) (hA : IntsAt w ao (markI k0 n)) :
    Calls Try.prog 15 #[.slice ao n cap, .int .i64 (k0 : Int)] w fun e w' => e = .returned (.int .i64 ((k0 + n : Nat) : Int)) ∧ Below w.heap.size w w' := by
  have HA := hide hA
  clear hA
  go_enter Try.func15, Try.ntmps15
  go_wp2
  go_loopw [1, 5] (fun kv i wr => ∃ j : Nat, j ≤ n ∧ i = .int .i64 j ∧ kv = .int .i64 ((k0 + j : Nat) : Int) ∧ Below w.heap.size w wr) (fun _ i _ => n - (intOf i).toNat)
  case atStart => exact ⟨0, by omega, rfl, by go_num, Below.refl _ _⟩
  case round =>
    obtain ⟨j, hj, rfl, rfl, hb⟩ := hrel
    have HB := hide hb
    obtain ⟨K, hK⟩ : ∃ K, k0 + j = K := ⟨_, rfl⟩
    have HK := hide hK
    have hK2 : K ≤ 3000000 := by omega
    rw [hK]
    clear hK
    by_cases h : j < n
    · have hi0 : (0 : Int) ≤ (j : Int) := by omega
      have hi1 : (j : Int) < (n : Int) := by omega
      obtain ⟨b, off, rfl, hlt, c0⟩ := (HA.out.stays hb) j (by rw [markI_len]; exact h)
      rw [markI_get, HK.out] at c0
      clear hb
      go_wp2
      go_roundw
      case rel =>
        refine ⟨j + 1, by omega, by go_num, ?_, HB.out⟩
        have := HK.out
        refine congrArg (Value.int .i64) ?_
        omega
      case measure => simp [intOf]; omega
    · obtain rfl : j = n := by omega
      go_wp2
      go_ret
      exact ⟨by rw [← HK.out]; rfl, HB.out⟩
end Go.Proofs.Ytcpgkalafkhlgaf.OpR
