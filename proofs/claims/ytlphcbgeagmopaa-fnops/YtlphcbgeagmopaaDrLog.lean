/- Proves what spec.DrawLogAdd leaves: a log, as a rule, and a list of ops. -/
import Derived.Test.YtlphcbgeagmopaaDrSome
namespace Go.Proofs.Ytlphcbgeagmopaa.OpR
open Go.ChangeShapes Go.WideShapes Go.ChangeAt Go.RowKit Go.ChangeMaps
open SrcR (Src)
set_option linter.unusedVariables false

/-- The ops that fill a list. -/
def fillO (k : Nat) : OpV := ⟨100 + (k : Int), 9, 1, 2, 0, ⟨#[97]⟩, ⟨#[]⟩⟩
theorem fill_snoc {l : List OpV} (h : OpSz8 l) (k : Nat) : OpSz8 (l ++ [fillO k]) := h.snoc (show (1 : Nat) ≤ 8000 by omega) (Nat.zero_le _)
theorem OpsOf.anew {X : World} {base : Nat} {T : TypeId} {v : Value} {l : List OpV} (h : OpsOf X base T v l) (ob : Obj) : OpsOf (X.alloc ob) base T v l :=
  h.below ((Below.refl _ _).alloc (Nat.le_refl _) _)
theorem OpsOf.grow {X Y : World} {base b2 gr n c : Nat} {T : TypeId} {v : Value} {l : List OpV} (h : OpsOf X base T v l) (hlt : ∀ j, v.ownBlock = some j → j < b2) (hg : X.grownBy Y (some gr)) (hb : b2 ≤ gr) : OpsOf Y base T v l := by
  rcases h with h | h
  · refine .inl ⟨h.1.kept hg ?_, h.2⟩
    rcases hv : v.ownBlock with _ | j
    · exact .inl rfl
    · exact .inr fun e => by have := hlt j hv; have := Option.some.inj e; omega
  · exact .inr h
set_option maxRecDepth 100000 in
set_option maxHeartbeats 2000000 in
theorem drawLogAdd_any (w : World) (ao : Option Addr) (len cap : Nat) (hc : SrcR.Code w ao len) (hB : ∀ a, ao = some a → a.block < w.heap.size) :
    Calls Try.prog 6 #[.slice ao len cap] w fun e w' => ∃ (v u : Value) (l m : List OpV), e = .returned (.tuple #[v, u]) ∧ l.length ≤ 150 ∧ m.length ≤ 150 ∧ OpSz8 l ∧ OpSz8 m ∧ OpsOf w' w.heap.size 40 v l ∧ OwnAt w' w.heap.size 40 u m ∧ Below w.heap.size w w' := by
  have HC := Hid.mk hc
  clear hc
  go_enter Try.func6, Try.ntmps6
  go_wp2_with fail
  refine (SrcR.source_any w ao len cap HC.out hB).mono ?_
  rintro e w1 ⟨rfl, hs, hb⟩
  have hg := dg_new HC.out hB hs hb
  have hg0 := hg.lt
  have HG := Hid.mk hg
  have HBw := Hid.mk hb
  go_wp2_with fail
  refine (drSome_any w.heap.size w1 ao len cap hs hg).mono ?_
  intro e w2 h
  obtain ⟨v, l, he, hl, hls, hOf, hD⟩ := h
  subst he
  have HOf := Hid.mk hOf
  have HD := Hid.mk hD
  have HL := Hid.mk hls
  have hw12 := hD.grown.size
  have hwb := hb.size
  clear hs hg hb hOf hD hls HC
  go_wp2_with fail
  refine (drOps_any w.heap.size w2 ao len cap HD.out.src (HG.out.step HD.out)).mono ?_
  intro e w3 h
  obtain ⟨u, m, he, hm, hms, hO, hD3⟩ := h
  subst he
  have HO := Hid.mk hO
  have HD3 := Hid.mk (HD.out.trans hD3)
  have HOf3 := Hid.mk (HOf.out.call hD3.grown hg0)
  have HM := Hid.mk hms
  have hw23 := hD3.grown.size
  have hvl : ∀ j, v.ownBlock = some j → j < w2.heap.size := fun j hj => by
    rcases HOf.out with h | ⟨h, _⟩
    · exact (h.1.lt j hj).2
    · rw [h] at hj; cases hj
  have HVL := Hid.mk hvl
  clear hO hD3 hms HOf HD hvl
  go_wp2_with fail
  refine (one_dr HD3.out HG.out (by omega) (by omega)).mono ?_
  rintro e w4 ⟨b, rfl, hd4, hg4⟩
  have HO4 := Hid.mk (HO.out.call hg4 (by omega))
  have HOf4 := Hid.mk (HOf3.out.call hg4 hg0)
  have HB4 := Hid.mk (Dr.out HBw.out hd4)
  have hw34 := hg4.size
  clear hd4 hg4 HO HOf3 HD3
  cases b
  · go_wp2
    refine bodyPost_ret (v := .tuple #[v, u]) (by simp [results, Try.results6, go_sem]) rfl ?_
    exact ⟨v, u, l, m, rfl, hl, by omega, HL.out, HM.out, HOf4.out.base (by omega), ⟨owns_base HO4.out.1 (by omega), HO4.out.2⟩, HB4.out⟩
  · go_wp2_with fail
    go_loopw [6, 7] (fun vo i wr => ∃ (x : List OpV) (k : Nat), i = .int .i64 k ∧ x.length ≤ 150 ∧ k ≤ x.length ∧ OpSz8 x ∧ OwnAt wr w2.heap.size 40 vo x ∧ OpsOf wr w1.heap.size 40 v l ∧ Below w.heap.size w wr ∧ w4.heap.size ≤ wr.heap.size) (fun _ i _ => 150 - (intOf i).toNat)
    case atStart => exact ⟨m, 0, rfl, by omega, by omega, HM.out, HO4.out, HOf4.out, HB4.out, Nat.le_refl _⟩
    case round =>
      obtain ⟨x, k, rfl, hx, hk, hxs, hO, hOf, hb, hws⟩ := hrel
      obtain ⟨gr, cap1, rfl, h1, h2, h3, h4, hat⟩ := hO.at
      have HO := Hid.mk hO
      have HOf := Hid.mk hOf
      have HX := Hid.mk hxs
      have HBr := Hid.mk hb
      have hbs := hb.size
      clear hO hOf hxs hb hat HO4 HOf4 HB4
      by_cases h : x.length < 150
      · have hx1 : (x.length : Int) < 150 := by omega
        have HN := Hid.mk (one_ops' wr (fillO k) 40)
        have HA := Hid.mk (HO.out.1.alloc (.cells #[.int .i64 (100 + (k : Int)), .int .i64 9, .int .i64 1, .int .i64 2, .int .i64 0, .string ⟨#[97]⟩, .string ⟨#[]⟩] 40))
        go_wp2_with (at_builtin; refine wpList_append_ops rfl _ _ rfl w2.heap.size _ x rfl HA.out (some ⟨wr.heap.size, 0, none⟩) [fillO k] 1 rfl HN.out (by simp; omega) (by simp; omega) ?_)
        intro v9 w9 hown9 hgr9 hne9
        have HO9 : Hid (OwnAt w9 w2.heap.size 40 v9 (x ++ [fillO k])) := ⟨by rw [List.length_append]; exact hown9, by first | exact hne9 | exact fun e => by have := hne9.1 e; simp at this⟩
        have HOf9 := Hid.mk ((HOf.out.anew (.cells #[.int .i64 (100 + (k : Int)), .int .i64 9, .int .i64 1, .int .i64 2, .int .i64 0, .string ⟨#[97]⟩, .string ⟨#[]⟩] 40)).grow (n := 0) (c := 0) HVL.out hgr9 h1)
        have HB9 := Hid.mk ((HBr.out.alloc hbs (.cells #[.int .i64 (100 + (k : Int)), .int .i64 9, .int .i64 1, .int .i64 2, .int .i64 0, .string ⟨#[97]⟩, .string ⟨#[]⟩] 40)).grown hgr9 (by simp; omega) (fun j hj => by simp [Value.ownBlock] at hj; omega))
        have hw9 := hgr9.size
        simp at hw9
        clear hown9 hgr9 hne9 HO HOf HBr HN HA
        go_wp2
        go_roundw
        case rel => exact ⟨x ++ [fillO k], k + 1, by go_num, by rw [List.length_append]; show _ + 1 ≤ 150; omega, by rw [List.length_append]; show _ ≤ _ + 1; omega, fill_snoc HX.out k, HO9.out, HOf9.out, HB9.out, by omega⟩
        case measure => simp [intOf]; omega
      · have hx1 : ¬ (x.length : Int) < 150 := by omega
        go_wp2
        refine bodyPost_ret (v := .tuple #[v, .slice (some ⟨gr, 0, none⟩) x.length cap1]) (by simp [results, Try.results6, go_sem]) rfl ?_
        exact ⟨v, _, rfl, l, hl, x, hx, HL.out, HX.out, HOf.out.base (by omega), ⟨owns_base HO.out.1 (by omega), HO.out.2⟩, HBr.out⟩
end Go.Proofs.Ytlphcbgeagmopaa.OpR
