/- maps.Values of a map of pairs. -/
import Derived.Test.YtmbabfelnieagaaDoorBX
import Derived.Shelf.AbstractIn
import Derived.RangeFuncMany
import Derived.RangeFuncLeaves
import Derived.Sort.MapsRangeIn
import Derived.Sort.KeysCollected
import Derived.WalkKit
import Derived.OwnWalkIn
import Derived.TacticsInMore
import Derived.RegionIn
import Derived.LoopNIn
import Derived.LoopIn
namespace Go.Proofs.YtmbabfelnieagaaDoor
open Go.RowKit Go.Maps Go.Sort Go.Shelf
set_option linter.unusedVariables false
set_option linter.unusedSimpArgs false

def prV (p : Px.Pr) : Value := .agg #[.string (Nm.S p.1), .string (Nm.S p.2)]
theorem prV_inj {p q : Px.Pr} (h : prV p = prV q) : p = q := by
  unfold prV at h
  simp only [Value.agg.injEq, Array.mk.injEq, List.cons.injEq, Value.string.injEq, and_true] at h
  have h1 := congrArg ByteArray.toList h.1
  have h2 := congrArg ByteArray.toList h.2
  rw [Nm.toList_S, Nm.toList_S] at h1 h2
  exact Prod.ext h1 h2
theorem pairElem_inv {v : Value} {z : DataW Unit × List MemPlace} (h : pairElem v = some z) : ∃ p : Px.Pr, v = prV p ∧ z = ((Px.ent p).2, []) := by
  unfold pairElem at h
  split at h
  · rename_i cs
    split at h
    · rename_i a b hcs
      cases h
      have hc : cs = #[.string a, .string b] := by cases cs; simp at hcs; rw [hcs]
      refine ⟨(a.data.toList, b.data.toList), ?_, rfl⟩
      rw [hc]; rfl
    · cases h
  · cases h
/-- which entry of the list a key has -/
theorem Px.at_enc : ∀ (S : List Px.Pr) (k : Px.B) (p : Px.Pr), Px.Srt S → (∀ zd, (Px.encD S).atKey (.string k) zd = (Px.ent p).2) → p.1 = k ∧ p ∈ S
  | [], k, p, _, h => by
    have h1 := h (.lit (.bool true))
    have h2 : (Px.encD []).atKey (.string k) (.lit (.bool true)) = .lit (.bool true) := rfl
    rw [h2] at h1
    exact absurd h1 (by unfold Px.ent; exact fun e => by cases e)
  | q :: S, k, p, hs, h => by
    by_cases hq : q.1 = k
    · have h1 := h (.lit (.bool true))
      have h2 : (Px.encD (q :: S)).atKey (.string k) (.lit (.bool true)) = (Px.ent q).2 := by
        unfold Px.encD DataW.atKey
        simp only [List.map_cons, List.find?_cons, Px.ent_same, hq, beq_self_eq_true]
      rw [h2] at h1
      have h3 : q = p := by
        unfold Px.ent at h1
        simp only [DataW.agg.injEq, List.cons.injEq, DataW.lit.injEq, Lit.string.injEq, and_true] at h1
        exact Prod.ext h1.1 h1.2
      rw [← h3]
      exact ⟨hq, List.mem_cons_self⟩
    · have h2 : ∀ zd, (Px.encD S).atKey (.string k) zd = (Px.ent p).2 := fun zd => by
        have h1 := h zd
        unfold Px.encD DataW.atKey at h1 ⊢
        simp only [List.map_cons, List.find?_cons, Px.ent_same, beq_eq_false_iff_ne.2 hq] at h1
        exact h1
      have ih := Px.at_enc S k p (List.pairwise_cons.1 hs).2 h2
      exact ⟨ih.1, List.mem_cons_of_mem _ ih.2⟩
theorem Px.keys_enc (S : List Px.Pr) : strKeys (Px.encD S) = S.map (·.1) := by
  show List.map (fun p => strOf p.1) (S.map Px.ent) = _
  rw [List.map_map]
  rfl
theorem Px.perm_nodup : ∀ (a b : List Px.Pr), a.Nodup → (∀ x ∈ a, x ∈ b) → a.length = b.length → a.Perm b
  | [], b, _, _, hl => by
    have : b = [] := List.eq_nil_of_length_eq_zero (by simpa using hl.symm)
    rw [this]
  | x :: a, b, hn, hm, hl => by
    obtain ⟨p, q, rfl⟩ := List.append_of_mem (hm x List.mem_cons_self)
    have hx := (List.nodup_cons.1 hn).1
    have ih := Px.perm_nodup a (p ++ q) (List.nodup_cons.1 hn).2 (fun y hy => by
      have h := hm y (List.mem_cons_of_mem _ hy)
      rcases List.mem_append.1 h with h | h
      · exact List.mem_append_left _ h
      · rcases List.mem_cons.1 h with h | h
        · exact absurd (h ▸ hy) hx
        · exact List.mem_append_right _ h) (by
      simp only [List.length_cons, List.length_append] at hl ⊢
      omega)
    exact (ih.cons x).trans List.perm_middle.symm
theorem Px.size_enc (S : List Px.Pr) : Maps.size (Px.encD S) = S.length := by
  show (S.map Px.ent).length = _
  rw [List.length_map]
/-- lists whose members are among these, and whose keys are these keys, are these in some order -/
theorem Px.perm_keys {ps S : List Px.Pr} (hs : Px.Srt S) (hm : ∀ p ∈ ps, p ∈ S) (hk : (ps.map (·.1)).Perm (S.map (·.1))) : ps.Perm S := by
  have hnd : (S.map (·.1)).Nodup := by
    unfold List.Nodup
    rw [List.pairwise_map]
    exact List.Pairwise.imp (fun h => Px.less_ne h) hs
  have hnp : ps.Nodup := by
    have h1 : (ps.map (·.1)).Nodup := hk.nodup_iff.2 hnd
    unfold List.Nodup at h1 ⊢
    rw [List.pairwise_map] at h1
    exact List.Pairwise.imp (fun h e => h (by rw [e])) h1
  have hlen : ps.length = S.length := by have := hk.length_eq; simpa using this
  exact Px.perm_nodup ps S hnp hm hlen
set_option maxRecDepth 100000 in
set_option maxHeartbeats 2000000 in
theorem vals1_in (F : Fence) (n : Nat) (h8 : F.fn 48) (hro : F.round = none) (hn : 1 ≤ n) (l Bm b nn : Nat) (S : List Px.Pr) (hsS : Px.Srt S) (J Jx : List Px.Pr → World → Prop)
    (hY : ∀ pre x W, J pre W → pre.length < S.length → YieldAt F (n - 1) Tryd.prog l #[prV x] W fun e W' =>
      (e = .returned (.bool true) ∧ J (pre ++ [x]) W' ∧ KeepsWalks W W') ∨ (e = .returned (.bool false) ∧ Jx (pre ++ [x]) W'))
    (W : World) (hJ : AbidesFrom W.heap.size J) (hm : W.cell? ⟨Bm, 0, none⟩ = some (.map (some b))) (hown : MapAt W b nn S) (h0 : J [] W) :
    CallsIn F n Tryd.prog 48 #[.func (.yield l) #[] #[], .pointer (some ⟨Bm, 0, none⟩)] W fun e W' => (∃ v, e = .returned v) ∧
      ((∃ xs, xs.Perm S ∧ J xs W') ∨ (∃ pre, Jx pre W')) := by
  refine callsIn_of_wp Tryd.func48 rfl h8 ?_ hro
  simp only [Tryd.ntmps48, List.size_toArray, List.length_cons, List.length_nil, Nat.reduceAdd, Nat.reduceSub, Array.replicate_succ, Array.replicate_zero, List.push_toArray, List.append_toArray, List.nil_append, List.cons_append]
  unfold MapAt at hown
  gi_wp2_with (first
    | (gi_at_range; refine wpListIn_range_own _ rfl _ 61 rfl 9 23 (string_keyed Tryd.underlying9) Tryd.underlying61 _ b nn _ rfl hown ?_; intro w0 hrg0 hg0 hs0)
    | gi_in)
  go_frame
  gi_loopw [4] (fun _ wr => ∃ (left : Lit → Bool) (cnt : Nat) (ps : List Px.Pr), wr.ranges Tryd.prog 9 pairElem b W.heap.size nn (Px.encD S) left cnt ∧ ps.length + cnt ≤ S.length ∧ Collected (Px.encD S) left (ps.map (·.1)) ∧ (∀ p ∈ ps, p ∈ S) ∧ J ps wr)
    (fun _ wr => wr.rangeLeft b W.heap.size)
  case atStart =>
    exact ⟨_, _, [], hrg0, by rw [Px.size_enc]; exact Nat.le_of_eq (Nat.zero_add _), Collected.start _, by simp, hJ [] W w0 none h0 hg0 (fun r e => by cases e)⟩
  case round =>
    obtain ⟨left, cnt, ps, hrg, hcs, hC, hV, hJs⟩ := hrel
    gi_wp2_with (first
      | (gi_at_next; refine wpListIn_next_ranges _ rfl _ rfl 9 (string_keyed Tryd.underlying9) pairElem encStr prV (fun key kl hk => by obtain ⟨x, hx, _⟩ := Maps.keyOf_str Tryd.underlying9 hk; exact ⟨x, hx⟩) (fun v y hv => by obtain ⟨c, rfl, _⟩ := pairElem_inv hv; exact ⟨c, rfl⟩) b W.heap.size nn _ _ _ rfl hrg ?_ ?_)
      | gi_in)
    · intro hc0 hl0
      gi_wp2
      go_end0
      have hk := hC.perm hown (string_keyed Tryd.underlying9) Tryd.underlying9 hl0
      rw [Px.keys_enc] at hk
      exact ⟨⟨_, rfl⟩, .inl ⟨ps, Px.perm_keys hsS hV hk, hJs⟩⟩
    · intro x ca cb kl yd yp w2 cnt2 hkey hlk hv hat hrg2 hlt hg2 hs2 hen
      generalize (ca, cb) = c at *
      obtain ⟨x', ex, rfl, _⟩ := Maps.keyOf_str Tryd.underlying9 hkey
      obtain rfl : x = x' := encStr_inj ex
      obtain ⟨c', ec, ez⟩ := pairElem_inv hv
      obtain rfl : c = c' := prV_inj ec
      obtain rfl : yd = (Px.ent c).2 := (Prod.mk.inj ez).1
      clear ec ez
      have hin := Px.at_enc S x c hsS hat
      obtain ⟨c1, c2⟩ := c
      obtain rfl : c1 = x := hin.1
      have hin2 : (c1, c2) ∈ S := hin.2
      clear hin
      have hJ2 : J ps w2 := hJ _ wr w2 (some W.heap.size) hJs hg2 (fun r e => by cases e; exact ⟨Nat.le_refl _, hrg.iter_walk⟩)
      have hJ3 : J ps (w2.alloc (.cells #[.string (Nm.S c1), .string (Nm.S c2)] 23)) := hJ _ w2 _ none hJ2 (World.grownBy_alloc _ _ _) (fun r e => by cases e)
      have hkw : KeepsWalks w2 (w2.alloc (.cells #[.string (Nm.S c1), .string (Nm.S c2)] 23)) := KeepsWalks.alloc _ _
      obtain ⟨fn, tmps, assign, body, hy, hR⟩ := hY ps (c1, c2) _ hJ3 (by omega)
      have hC2 : Collected (Px.encD S) (fun z => left z && !z.sameKey (.string c1)) ((ps ++ [(c1, c2)]).map (·.1)) := by
        rw [List.map_append, List.map_cons, List.map_nil]
        exact hC.step hlk hat
      have hV2 : ∀ p ∈ ps ++ [(c1, c2)], p ∈ S := fun p hp => (List.mem_append.1 hp).elim (hV p) (fun e => by rw [List.mem_singleton.1 e]; exact hin2)
      clear hs2
      dsimp only [prV] at hy hR hen hv ⊢
      clear hin2 hv
      gi_wp2
      refine hR.mono ?_
      rintro e W3 (⟨rfl, hJ4, hk3⟩ | ⟨rfl, hJx3⟩)
      · gi_wp2
        have hrg3 := hrg2.of_walks (hkw.trans hk3)
        go_roundw
        case rel => exact ⟨_, cnt2, ps ++ [(c1, c2)], hrg3, by rw [List.length_append]; simp only [List.length_cons, List.length_nil]; omega, hC2, hV2, hJ4⟩
        case measure => rw [hrg3.left_eq, hrg.left_eq]; exact hlt
      · gi_wp2
        refine bodyPost_ret (results_none rfl _ _ _) rfl ?_
        exact ⟨⟨_, rfl⟩, .inr ⟨_, hJx3⟩⟩
end Go.Proofs.YtmbabfelnieagaaDoor
