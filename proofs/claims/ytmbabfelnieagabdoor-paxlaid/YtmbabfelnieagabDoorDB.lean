/- Over of the program, as the laws want it. -/
import Derived.Test.YtmbabfelnieagabDoorBX
import Derived.Shelf.AbstractIn
import Derived.RangeFuncMany
import Derived.RangeFuncLeaves
import Derived.Sort.MapsRangeIn
import Derived.Sort.KeysCollected
import Derived.WalkKit
import Derived.OwnWalkIn
import Derived.TacticsInMore
import Derived.RegionIn
import Derived.LoopNIn
import Derived.LoopIn
import Derived.RangeFuncNested
import Derived.Test.YtmbabfelnieagabDoorBN
import Derived.Shelf.SlSortCmp.NoneTotal
namespace Go.Proofs.YtmbabfelnieagabDoor
open Go.RowKit Go.Maps Go.Sort Go.Shelf
set_option linter.unusedVariables false
set_option linter.unusedSimpArgs false

def prV (p : Px.Pr) : Value := .agg #[.string (Nm.S p.1), .string (Nm.S p.2)]
theorem prV_inj {p q : Px.Pr} (h : prV p = prV q) : p = q := by
  unfold prV at h
  simp only [Value.agg.injEq, Array.mk.injEq, List.cons.injEq, Value.string.injEq, and_true] at h
  have h1 := congrArg ByteArray.toList h.1
  have h2 := congrArg ByteArray.toList h.2
  rw [Nm.toList_S, Nm.toList_S] at h1 h2
  exact Prod.ext h1 h2
theorem pairElem_inv {v : Value} {z : DataW Unit × List MemPlace} (h : pairElem v = some z) : ∃ p : Px.Pr, v = prV p ∧ z = ((Px.ent p).2, []) := by
  unfold pairElem at h
  split at h
  · rename_i cs
    split at h
    · rename_i a b hcs
      cases h
      have hc : cs = #[.string a, .string b] := by cases cs; simp at hcs; rw [hcs]
      refine ⟨(a.data.toList, b.data.toList), ?_, rfl⟩
      rw [hc]; rfl
    · cases h
  · cases h
/-- which entry of the list a key has -/
theorem Px.at_enc : ∀ (S : List Px.Pr) (k : Px.B) (p : Px.Pr), Px.Srt S → (∀ zd, (Px.encD S).atKey (.string k) zd = (Px.ent p).2) → p.1 = k ∧ p ∈ S
  | [], k, p, _, h => by
    have h1 := h (.lit (.bool true))
    have h2 : (Px.encD []).atKey (.string k) (.lit (.bool true)) = .lit (.bool true) := rfl
    rw [h2] at h1
    exact absurd h1 (by unfold Px.ent; exact fun e => by cases e)
  | q :: S, k, p, hs, h => by
    by_cases hq : q.1 = k
    · have h1 := h (.lit (.bool true))
      have h2 : (Px.encD (q :: S)).atKey (.string k) (.lit (.bool true)) = (Px.ent q).2 := by
        unfold Px.encD DataW.atKey
        simp only [List.map_cons, List.find?_cons, Px.ent_same, hq, beq_self_eq_true]
      rw [h2] at h1
      have h3 : q = p := by
        unfold Px.ent at h1
        simp only [DataW.agg.injEq, List.cons.injEq, DataW.lit.injEq, Lit.string.injEq, and_true] at h1
        exact Prod.ext h1.1 h1.2
      rw [← h3]
      exact ⟨hq, List.mem_cons_self⟩
    · have h2 : ∀ zd, (Px.encD S).atKey (.string k) zd = (Px.ent p).2 := fun zd => by
        have h1 := h zd
        unfold Px.encD DataW.atKey at h1 ⊢
        simp only [List.map_cons, List.find?_cons, Px.ent_same, beq_eq_false_iff_ne.2 hq] at h1
        exact h1
      have ih := Px.at_enc S k p (List.pairwise_cons.1 hs).2 h2
      exact ⟨ih.1, List.mem_cons_of_mem _ ih.2⟩
theorem Px.keys_enc (S : List Px.Pr) : strKeys (Px.encD S) = S.map (·.1) := by
  show List.map (fun p => strOf p.1) (S.map Px.ent) = _
  rw [List.map_map]
  rfl
theorem Px.perm_nodup : ∀ (a b : List Px.Pr), a.Nodup → (∀ x ∈ a, x ∈ b) → a.length = b.length → a.Perm b
  | [], b, _, _, hl => by
    have : b = [] := List.eq_nil_of_length_eq_zero (by simpa using hl.symm)
    rw [this]
  | x :: a, b, hn, hm, hl => by
    obtain ⟨p, q, rfl⟩ := List.append_of_mem (hm x List.mem_cons_self)
    have hx := (List.nodup_cons.1 hn).1
    have ih := Px.perm_nodup a (p ++ q) (List.nodup_cons.1 hn).2 (fun y hy => by
      have h := hm y (List.mem_cons_of_mem _ hy)
      rcases List.mem_append.1 h with h | h
      · exact List.mem_append_left _ h
      · rcases List.mem_cons.1 h with h | h
        · exact absurd (h ▸ hy) hx
        · exact List.mem_append_right _ h) (by
      simp only [List.length_cons, List.length_append] at hl ⊢
      omega)
    exact (ih.cons x).trans List.perm_middle.symm
theorem Px.size_enc (S : List Px.Pr) : Maps.size (Px.encD S) = S.length := by
  show (S.map Px.ent).length = _
  rw [List.length_map]
/-- lists whose members are among these, and whose keys are these keys, are these in some order -/
theorem Px.perm_keys {ps S : List Px.Pr} (hs : Px.Srt S) (hm : ∀ p ∈ ps, p ∈ S) (hk : (ps.map (·.1)).Perm (S.map (·.1))) : ps.Perm S := by
  have hnd : (S.map (·.1)).Nodup := by
    unfold List.Nodup
    rw [List.pairwise_map]
    exact List.Pairwise.imp (fun h => Px.less_ne h) hs
  have hnp : ps.Nodup := by
    have h1 : (ps.map (·.1)).Nodup := hk.nodup_iff.2 hnd
    unfold List.Nodup at h1 ⊢
    rw [List.pairwise_map] at h1
    exact List.Pairwise.imp (fun h e => h (by rw [e])) h1
  have hlen : ps.length = S.length := by have := hk.length_eq; simpa using this
  exact Px.perm_nodup ps S hnp hm hlen
set_option maxRecDepth 100000 in
set_option maxHeartbeats 2000000 in
theorem vals1_in (F : Fence) (n : Nat) (h8 : F.fn 36) (hro : F.round = none) (hn : 1 ≤ n) (l Bm b nn : Nat) (S : List Px.Pr) (hsS : Px.Srt S) (J Jx : List Px.Pr → World → Prop)
    (hY : ∀ pre x W, J pre W → pre.length < S.length → YieldAt F (n - 1) Tryd.prog l #[prV x] W fun e W' =>
      (e = .returned (.bool true) ∧ J (pre ++ [x]) W' ∧ KeepsWalks W W') ∨ (e = .returned (.bool false) ∧ Jx (pre ++ [x]) W'))
    (W : World) (hJ : AbidesFrom W.heap.size J) (hm : W.cell? ⟨Bm, 0, none⟩ = some (.map (some b))) (hown : MapAt W b nn S) (h0 : J [] W) :
    CallsIn F n Tryd.prog 36 #[.func (.yield l) #[] #[], .pointer (some ⟨Bm, 0, none⟩)] W fun e W' => (∃ v, e = .returned v) ∧
      ((∃ xs, xs.Perm S ∧ J xs W') ∨ (∃ pre, Jx pre W')) := by
  refine callsIn_of_wp Tryd.func36 rfl h8 ?_ hro
  simp only [Tryd.ntmps36, List.size_toArray, List.length_cons, List.length_nil, Nat.reduceAdd, Nat.reduceSub, Array.replicate_succ, Array.replicate_zero, List.push_toArray, List.append_toArray, List.nil_append, List.cons_append]
  unfold MapAt at hown
  gi_wp2_with (first
    | (gi_at_range; refine wpListIn_range_own _ rfl _ 51 rfl 9 23 (string_keyed Tryd.underlying9) Tryd.underlying51 _ b nn _ rfl hown ?_; intro w0 hrg0 hg0 hs0)
    | gi_in)
  go_frame
  gi_loopw [4] (fun _ wr => ∃ (left : Lit → Bool) (cnt : Nat) (ps : List Px.Pr), wr.ranges Tryd.prog 9 pairElem b W.heap.size nn (Px.encD S) left cnt ∧ ps.length + cnt ≤ S.length ∧ Collected (Px.encD S) left (ps.map (·.1)) ∧ (∀ p ∈ ps, p ∈ S) ∧ J ps wr)
    (fun _ wr => wr.rangeLeft b W.heap.size)
  case atStart =>
    exact ⟨_, _, [], hrg0, by rw [Px.size_enc]; exact Nat.le_of_eq (Nat.zero_add _), Collected.start _, by simp, hJ [] W w0 none h0 hg0 (fun r e => by cases e)⟩
  case round =>
    obtain ⟨left, cnt, ps, hrg, hcs, hC, hV, hJs⟩ := hrel
    gi_wp2_with (first
      | (gi_at_next; refine wpListIn_next_ranges _ rfl _ rfl 9 (string_keyed Tryd.underlying9) pairElem encStr prV (fun key kl hk => by obtain ⟨x, hx, _⟩ := Maps.keyOf_str Tryd.underlying9 hk; exact ⟨x, hx⟩) (fun v y hv => by obtain ⟨c, rfl, _⟩ := pairElem_inv hv; exact ⟨c, rfl⟩) b W.heap.size nn _ _ _ rfl hrg ?_ ?_)
      | gi_in)
    · intro hc0 hl0
      gi_wp2
      go_end0
      have hk := hC.perm hown (string_keyed Tryd.underlying9) Tryd.underlying9 hl0
      rw [Px.keys_enc] at hk
      exact ⟨⟨_, rfl⟩, .inl ⟨ps, Px.perm_keys hsS hV hk, hJs⟩⟩
    · intro x ca cb kl yd yp w2 cnt2 hkey hlk hv hat hrg2 hlt hg2 hs2 hen
      generalize (ca, cb) = c at *
      obtain ⟨x', ex, rfl, _⟩ := Maps.keyOf_str Tryd.underlying9 hkey
      obtain rfl : x = x' := encStr_inj ex
      obtain ⟨c', ec, ez⟩ := pairElem_inv hv
      obtain rfl : c = c' := prV_inj ec
      obtain rfl : yd = (Px.ent c).2 := (Prod.mk.inj ez).1
      clear ec ez
      have hin := Px.at_enc S x c hsS hat
      obtain ⟨c1, c2⟩ := c
      obtain rfl : c1 = x := hin.1
      have hin2 : (c1, c2) ∈ S := hin.2
      clear hin
      have hJ2 : J ps w2 := hJ _ wr w2 (some W.heap.size) hJs hg2 (fun r e => by cases e; exact ⟨Nat.le_refl _, hrg.iter_walk⟩)
      have hJ3 : J ps (w2.alloc (.cells #[.string (Nm.S c1), .string (Nm.S c2)] 23)) := hJ _ w2 _ none hJ2 (World.grownBy_alloc _ _ _) (fun r e => by cases e)
      have hkw : KeepsWalks w2 (w2.alloc (.cells #[.string (Nm.S c1), .string (Nm.S c2)] 23)) := KeepsWalks.alloc _ _
      obtain ⟨fn, tmps, assign, body, hy, hR⟩ := hY ps (c1, c2) _ hJ3 (by omega)
      have hC2 : Collected (Px.encD S) (fun z => left z && !z.sameKey (.string c1)) ((ps ++ [(c1, c2)]).map (·.1)) := by
        rw [List.map_append, List.map_cons, List.map_nil]
        exact hC.step hlk hat
      have hV2 : ∀ p ∈ ps ++ [(c1, c2)], p ∈ S := fun p hp => (List.mem_append.1 hp).elim (hV p) (fun e => by rw [List.mem_singleton.1 e]; exact hin2)
      clear hs2
      dsimp only [prV] at hy hR hen hv ⊢
      clear hin2 hv
      gi_wp2
      refine hR.mono ?_
      rintro e W3 (⟨rfl, hJ4, hk3⟩ | ⟨rfl, hJx3⟩)
      · gi_wp2
        have hrg3 := hrg2.of_walks (hkw.trans hk3)
        go_roundw
        case rel => exact ⟨_, cnt2, ps ++ [(c1, c2)], hrg3, by rw [List.length_append]; simp only [List.length_cons, List.length_nil]; omega, hC2, hV2, hJ4⟩
        case measure => rw [hrg3.left_eq, hrg.left_eq]; exact hlt
      · gi_wp2
        refine bodyPost_ret (results_none rfl _ _ _) rfl ?_
        exact ⟨⟨_, rfl⟩, .inr ⟨_, hJx3⟩⟩
end Go.Proofs.YtmbabfelnieagabDoor
namespace Go.Proofs.YtmbabfelnieagabDoor
open Go.RowKit Go.Maps Go.Sort Go.Shelf
set_option linter.unusedVariables false
set_option linter.unusedSimpArgs false
attribute [local go_sem] Oper.semAt_some

set_option maxRecDepth 100000 in
theorem vals_any (W : World) (g : Nat) : Calls Tryd.prog 23 #[.map (some g)] W fun e w' => e = .returned (.func (.func 36) #[] #[.pointer (some ⟨W.heap.size, 0, none⟩)]) ∧ w' = W.alloc (.cells #[.map (some g)] 51) := by
  go_enter Tryd.func23, Tryd.ntmps23
  go_wp2
  go_ret
  exact ⟨rfl, rfl⟩
theorem vals_stops (n : Nat) (hn : 1 ≤ n) (bx b nn : Nat) (S : List Px.Pr) (hsS : Px.Srt S) (w : World) (hbx : VarAt w bx 51 (.map (some b))) (hown : MapAt w b nn S) :
    SeqStopsK Fence.wide n Tryd.prog 36 #[.pointer (some ⟨bx, 0, none⟩)] (fun x => #[prV x]) KeepsWalks (fun xs => xs.Perm S) (fun _ => True) S.length w := fun l J Jx W hW hJ _ hY h0 => by
  refine (vals1_in Fence.wide n trivial rfl hn l bx b nn S hsS J Jx hY W hJ ?_ ?_ h0).mono ?_
  · exact (hbx.keep hW hbx.lt).cell
  · exact hown.keepb hW hown.lt
  · rintro e W' ⟨hv, h | ⟨pre, h⟩⟩
    · exact ⟨hv, .inl h⟩
    · exact ⟨hv, .inr ⟨pre, trivial, h⟩⟩
/-- one pair onto an owned list, within a fence -/
theorem wpListIn_pair9 {F : Fence} {m : Nat} {w : World} {ops : Array Oper} {rest : List Oper} {o : Oper} {a : Act} {Q : Exit → Act → World → Prop} (hgd : o.guard = none) (s x : Operand)
    (ho : o.op = .call { callee := .builtin .append, args := #[s, x], argTypes := #[32, 32] }) (B : Nat) (p : Px.Pr) (v : Value) (l : List Px.Pr) (n : Nat) (hn : l.length = n) (hs : a.eval s = v)
    (hown : w.ownsRow B 23 2 v n (Px.cellsPr l)) (g : Nat) (hx : a.eval x = .slice (some ⟨g, 0, none⟩) 1 1) (hg : w.heap[g]? = some (.cells #[.string (Nm.S p.1), .string (Nm.S p.2)] 23 (0, 0)))
    (hlen : n ≤ 1000000) (hB : B ≤ w.heap.size)
    (h : ∀ A c w', w'.ownsRow B 23 2 (.slice A (n + 1) c) (n + 1) (Px.cellsPr (l ++ [p])) → w.grownBy w' v.ownBlock → wpListIn F m Tryd.prog ops Q rest (a.put o.dst (.slice A (n + 1) c)) w') : wpListIn F m Tryd.prog ops Q (o :: rest) a w := by
  obtain ⟨i0, hi0, hz0, hz1, hz2⟩ := info_parts info_pair
  refine wpListIn_append_own w hgd s x _ ho B 23 i0 _ 2 32 Tryd.underlying32 hi0 hz0 hz1 hz2 rfl (by decide) v n (Px.cellsPr l) hs hown ⟨g, 0, none⟩ 1 1 [.string (Nm.S p.1), .string (Nm.S p.2)] hx rfl (World.news_of_block (cs := #[_, _]) hg) (by simp [Value.oneCell']) (by unfold maxLen; omega) (by omega) hB ?_
  intro v' w' h1 h2 _
  obtain ⟨A, c, rfl⟩ := own_slice h1
  refine h A c w' ?_ h2
  rw [Px.cellsPr_append]
  exact h1
set_option maxRecDepth 100000 in
set_option maxHeartbeats 2000000 in
theorem appseq_in (bx b nn : Nat) (S : List Px.Pr) (hsS : Px.Srt S) (hl : S.length ≤ 64) (w : World) (hbx : VarAt w bx 51 (.map (some b))) (hown : MapAt w b nn S) :
    CallsIn Fence.wide 10 Tryd.prog 43 #[.slice none 0 0, .func (.func 36) #[] #[.pointer (some ⟨bx, 0, none⟩)]] w fun e w' => ∃ (v : Value) (xs : List Px.Pr), e = .returned v ∧ xs.Perm S ∧ w'.ownsRow w.heap.size 23 2 v xs.length (Px.cellsPr xs) ∧ Bw w w' := by
  refine callsIn_of_wp_marks Tryd.func43 rfl trivial ?_ rfl
  simp only [Tryd.ntmps43, List.size_toArray, List.length_cons, List.length_nil, Nat.reduceAdd, Nat.reduceSub, Array.replicate_succ, Array.replicate_zero, List.push_toArray, List.append_toArray, List.nil_append, List.cons_append]
  gi_wp2
  obtain ⟨w2, hw2⟩ : ∃ w2, Hid (w.alloc (.cells #[.slice none 0 0] 32) = w2) := ⟨_, rfl⟩
  have hb2 : Bw w w2 := by rw [← hw2.out]; exact Below.alloc (Below.refl _ _) (Nat.le_refl _) _
  have hz2 : w2.heap.size = w.heap.size + 1 := by rw [← hw2.out]; exact alloc_size9 _ _
  have hB2 : Boxed w2 w.heap.size 32 (.slice none 0 0) := by rw [← hw2.out]; exact Boxed.new _ _ _
  have hbx2 := hbx.keep hb2 hbx.lt
  have hown2 := hown.keepb hb2 hown.lt
  rw [hw2.out]
  clear hw2
  refine' wpIn_rangeFunc_ownH rfl (by omega) (gf := 36) (lb := #[.pointer (some ⟨bx, 0, none⟩)]) rfl trivial (enters_of Tryd.func36 (by kernel_rfl) rfl)
    (vals_stops 9 (by omega) bx b nn S hsS w2 hbx2 hown2) (fun h k => h.trans k) (fun W l o o' hl ho _ hw => KeepsWalks.putObj _ ho hw) (Below.refl _ _) (fun _ => rfl)
    (fun pre W => (∃ v, Boxed W w.heap.size 32 v ∧ W.ownsRow w.heap.size 23 2 v pre.length (Px.cellsPr pre) ∧ True) ∧ Below w.heap.size w W)
    (fun c pre W => False)
    (OwnFrom.and (Own.from (holdsRow_own w.heap.size w.heap.size 32 23 2 (fun pre => pre.length) (fun pre => Px.cellsPr pre) (fun _ _ => True)) _) (ownFrom_below (Nat.le_refl _) (by omega)))
    (fun c => fun _ _ _ _ h _ _ => h)
    ⟨⟨_, hB2, ⟨rfl, .inl ⟨rfl, rfl⟩⟩, trivial⟩, hb2⟩
    (fun x a' W => ∃ g5 u8 u9 u10 u11 u12, a' = { tmps := #[.slice none 0 0, .func (.func 36) #[] #[.pointer (some ⟨bx, 0, none⟩)], .pointer (some ⟨w.heap.size, 0, none⟩), undef, .slice none 0 0, .pointer (some ⟨g5, 0, none⟩), .func (.func 36) #[] #[.pointer (some ⟨bx, 0, none⟩)], prV x, u8, u9, u10, u11, u12], defers := [] } ∧ W.cell? ⟨g5, 0, none⟩ = some (.string (Nm.S x.1)) ∧ W.cell? ⟨g5, 1, none⟩ = some (.string (Nm.S x.2)))
    (fun x a' => Own.from (fun s A B row hs hg hr => by
      obtain ⟨g5, u8, u9, u10, u11, u12, h1, h2, h3⟩ := hs
      exact ⟨g5, u8, u9, u10, u11, u12, h1, cell_kept h2 hg hr, cell_kept h3 hg hr⟩) _)
    ?assign ?body ?done ?stop
  case assign =>
    intro l pre x W K hI hK
    obtain ⟨x1, x2⟩ := x
    unfold prV
    dsimp only
    obtain ⟨⟨v, hBv, hov, -⟩, hbw⟩ := hI
    gi_wp2
    refine hK _ _ ?_ ?_ ?_ ⟨W.heap.size, _, _, _, _, _, rfl, ?_, ?_⟩
    · exact (KeepsOthers.alloc W _).from _
    · exact KeepsWalks.alloc _ _
    · exact ⟨⟨v, hBv.alloc _, hov.alloc _, trivial⟩, hbw.alloc hbw.size _⟩
    · exact cell_of_row _ _ 0 _ _ _ (heap_alloc_new W _)
    · exact cell_of_row _ _ 1 _ _ _ (heap_alloc_new W _)
  case body =>
    rintro l pre x a' W hwl _ ⟨⟨v, hBv, hov, -⟩, hbw⟩ ⟨g5, u8, u9, u10, u11, u12, rfl, p1, p2⟩ hlt
    have hc := hBv.cell
    have hf := hBv.frozen
    have hsz := hbw.size
    have hnew : (W.alloc (.cells #[.string (Nm.S x.1), .string (Nm.S x.2)] 23)).heap[W.heap.size]? = some (.cells #[.string (Nm.S x.1), .string (Nm.S x.2)] 23 (0, 0)) := heap_alloc_new W _
    have hoa := hov.alloc (.cells #[.string (Nm.S x.1), .string (Nm.S x.2)] 23)
    gi_wp2_with (first
      | (gi_at_builtin; refine wpListIn_pair9 (by rfl) _ _ (by rfl) w.heap.size x v pre pre.length rfl (by rfl) hoa W.heap.size (by rfl) hnew (by omega) (by rw [alloc_size9]; omega) ?_; intro A5 c5 w3 ho3 hg3
         obtain ⟨hB3, hB4, ho4, hko, hbl⟩ := Boxed.appended hBv (by decide) hov hsz (Nat.le_refl _) ho3 hg3
         have hc3 := hB3.cell
         have hf3 := hB3.frozen
         clear hnew hoa hc hf p1 p2 hov hBv ho3 hg3 hB3
         refine Hid.out ?_)
      | gi_in)
    refine Lib.hid ?_
    gi_wp2
    exact ⟨hko.from _, hko.walks, ⟨_, hB4, by rw [List.length_append]; exact ho4, trivial⟩, hbw.trans hbl⟩
  case done =>
    rintro D ys W hD hys ⟨⟨v, hBv, hov, -⟩, hbw⟩ hK
    have hc := hBv.cell
    gi_wp2
    refine ⟨by simp, .inl ⟨_, _, rfl, run_takeDeferred hK, ?_⟩⟩
    refine ⟨v, ?_, v, ys, rfl, hys, ownsRow_putObj hov _ hK rfl, hbw.trans (belowK_b (w := w) (Nat.le_refl _) _ D _ (.deferred none) (by omega) hK rfl rfl)⟩
    simp [results, Tryd.f43, go_sem]
  case stop =>
    rintro D c pre W hD _ h
    exact h.elim
theorem appseq_any (bx b nn : Nat) (S : List Px.Pr) (hsS : Px.Srt S) (hl : S.length ≤ 64) (w : World) (hbx : VarAt w bx 51 (.map (some b))) (hown : MapAt w b nn S) :
    Calls Tryd.prog 43 #[.slice none 0 0, .func (.func 36) #[] #[.pointer (some ⟨bx, 0, none⟩)]] w fun e w' => ∃ (v : Value) (xs : List Px.Pr), e = .returned v ∧ xs.Perm S ∧ w'.ownsRow w.heap.size 23 2 v xs.length (Px.cellsPr xs) ∧ Bw w w' :=
  callsIn_wide.1 (appseq_in bx b nn S hsS hl w hbx hown)
set_option maxRecDepth 100000 in
theorem collect_any (bx b nn : Nat) (S : List Px.Pr) (hsS : Px.Srt S) (hl : S.length ≤ 64) (w : World) (hbx : VarAt w bx 51 (.map (some b))) (hown : MapAt w b nn S) :
    Calls Tryd.prog 34 #[.func (.func 36) #[] #[.pointer (some ⟨bx, 0, none⟩)]] w fun e w' => ∃ (v : Value) (xs : List Px.Pr), e = .returned v ∧ xs.Perm S ∧ w'.ownsRow w.heap.size 23 2 v xs.length (Px.cellsPr xs) ∧ Bw w w' := by
  have H := appseq_any bx b nn S hsS hl w hbx hown
  go_enter Tryd.func34, Tryd.ntmps34
  go_wp2_with (go_at_call 43; refine H.mono ?_; rintro e w2 ⟨v, xs, rfl, h1, h2, h3⟩)
  go_ret
  exact ⟨v, xs, rfl, h1, h2, h3⟩
end Go.Proofs.YtmbabfelnieagabDoor
namespace Go.Proofs.YtmbabfelnieagabDoor
open Go.RowKit Go.Maps Go.Sort Go.Shelf
set_option linter.unusedVariables false
set_option linter.unusedSimpArgs false

theorem cmp_less : ∀ a b : Px.B, decide (Lib.compareBytes a b < 0) = Nm.less a b
  | [], [] => rfl
  | [], _ :: _ => rfl
  | _ :: _, [] => by rw [Nm.less_nil]; rfl
  | a :: a2, b :: b2 => by
    rw [Nm.less_cons, Lib.compareBytes]
    by_cases h : a < b
    · rw [if_pos h, decide_eq_true h]; rfl
    · rw [if_neg h, decide_eq_false h]
      by_cases h2 : b < a
      · rw [if_pos h2]
        have h3 : (a == b) = false := beq_eq_false_iff_ne.2 (fun e => by rw [e] at h2; exact absurd h2 (UInt8.lt_irrefl _))
        rw [h3]; rfl
      · rw [if_neg h2]
        have h3 : a = b := by
          have h4 := UInt8.not_lt.1 h
          have h5 := UInt8.not_lt.1 h2
          exact UInt8.le_antisymm h5 h4
        rw [h3, beq_self_eq_true, cmp_less a2 b2]; rfl
def encPr (p : Px.Pr) : List Value := [.string (Nm.S p.1), .string (Nm.S p.2)]
def cfPr (p q : Px.Pr) : Int := Lib.compareBytes p.1 q.1
theorem lt_cf (p q : Px.Pr) : ltOf cfPr p q = Nm.less p.1 q.1 := cmp_less p.1 q.1
theorem swo_cf : SWO (ltOf cfPr) where
  irrefl := fun x => by rw [lt_cf]; exact Nm.less_irr _
  trans := fun x y z h1 h2 => by rw [lt_cf] at h1 h2 ⊢; exact Nm.less_trans _ _ _ h1 h2
  ntrans := fun x y z h1 h2 => by
    rw [lt_cf] at h1 h2 ⊢
    rcases Px.three x.1 z.1 with h | h | h
    · rcases Px.three x.1 y.1 with k | k | k
      · rw [k] at h1; cases h1
      · rw [← k, h] at h2; cases h2
      · rw [Nm.less_trans _ _ _ k h] at h2; cases h2
    · rw [h]; exact Nm.less_irr _
    · exact Nm.less_asym h
set_option maxRecDepth 100000 in
theorem bykey_any (x y : Px.Pr) (W : World) : Calls Tryd.prog 24 #[.agg #[.string (Nm.S x.1), .string (Nm.S x.2)], .agg #[.string (Nm.S y.1), .string (Nm.S y.2)]] W fun e w' => e = .returned (.int .i64 (cfPr x y)) ∧ ∃ q os', w' = grow (W.drewN q) os' := by
  have hcon := fun W' => Any.strings_Compare sx106 (Nm.S x.1) (Nm.S y.1) W'
  change ∀ W', Calls Tryd.prog 37 _ _ _ at hcon
  have hr : Lib.compareBytes (Nm.S x.1).data.toList (Nm.S y.1).data.toList = cfPr x y := rfl
  rw [hr] at hcon
  clear hr
  generalize cfPr x y = r at hcon ⊢
  go_enter Tryd.func24, Tryd.ntmps24
  go_wp2_with (go_at_call 37; refine (hcon _).mono ?_; rintro e w' ⟨rfl, hw'⟩; subst w')
  go_ret
  exact ⟨rfl, 0, _, by rw [alloc_eq_grow, alloc_eq_grow, grow_grow]; rfl⟩
theorem cmp_lays (blk off size : Nat) (w : World) : CmpLays Tryd.prog 24 #[] encPr 2 cfPr blk off size w :=
  fun _ _ _ _ x y => bykey_any x y _
/-- the cells of a list of pairs, one by one -/
theorem Px.cells_at : ∀ (xs : List Px.Pr) (j : Nat), j < xs.length * 2 → (Px.cellsPr xs)[j]? = some ((encPr xs[j / 2]!)[j % 2]!)
  | [], j, h => absurd h (by simp)
  | p :: xs, 0, _ => rfl
  | p :: xs, 1, _ => rfl
  | p :: xs, j + 2, h => by
    have ih := Px.cells_at xs j (by simp only [List.length_cons] at h; omega)
    have h1 : (j + 2) / 2 = j / 2 + 1 := by omega
    have h2 : (j + 2) % 2 = j % 2 := by omega
    show (Px.cellsPr xs)[j]? = _
    rw [ih, h1, h2]
    rfl
theorem Px.cells_len : ∀ xs : List Px.Pr, (Px.cellsPr xs).length = xs.length * 2
  | [] => rfl
  | p :: xs => by
    show (Px.cellsPr xs).length + 1 + 1 = _
    rw [Px.cells_len xs, List.length_cons]; omega
theorem Px.flat_cells (xs : List Px.Pr) : (flatK encPr 2 xs.toArray).toList = Px.cellsPr xs := by
  apply List.ext_getElem?
  intro j
  by_cases h : j < xs.length * 2
  · rw [Px.cells_at xs j h]
    have h2 := get_flatK encPr 2 xs.toArray j (by simpa using h)
    have hs : j < (flatK encPr 2 xs.toArray).size := by rw [size_flatK]; simpa using h
    rw [getElem!_pos _ j hs] at h2
    rw [Array.getElem?_toList, Array.getElem?_eq_getElem hs, h2]
    congr 3
    simp
  · have e1 : (Px.cellsPr xs)[j]? = none := List.getElem?_eq_none (by rw [Px.cells_len]; omega)
    have e2 : (flatK encPr 2 xs.toArray).toList[j]? = none := List.getElem?_eq_none (by rw [Array.length_toList, size_flatK]; simpa using h)
    rw [e1, e2]
theorem Px.srt_perm : ∀ (a b : List Px.Pr), Px.Srt a → Px.Srt b → a.Perm b → a = b
  | [], b, _, _, h => h.nil_eq
  | x :: a, [], _, _, h => absurd h.length_eq (by simp)
  | x :: a, y :: b, ha, hb, h => by
    have hxy : x = y := by
      have h1 : x ∈ y :: b := h.mem_iff.1 List.mem_cons_self
      have h2 : y ∈ x :: a := h.mem_iff.2 List.mem_cons_self
      rcases List.mem_cons.1 h1 with e | h1
      · exact e
      · rcases List.mem_cons.1 h2 with e | h2
        · exact e.symm
        · have k1 := (List.pairwise_cons.1 hb).1 x h1
          have k2 := (List.pairwise_cons.1 ha).1 y h2
          have k3 := Nm.less_asym k1
          rw [k2] at k3; cases k3
    subst hxy
    rw [Px.srt_perm a b (List.pairwise_cons.1 ha).2 (List.pairwise_cons.1 hb).2 (List.Perm.cons_inv h)]
theorem Px.srt_sorted {d : Array Px.Pr} {S : List Px.Pr} (hS : Px.Srt S) (hp : d.toList.Perm S) (hs : SortedIn (ltOf cfPr) 0 d.size d) : d.toList = S := by
  refine Px.srt_perm _ _ ?_ hS hp
  have hnd : (d.toList.map (·.1)).Nodup := by
    have h1 : (S.map (·.1)).Nodup := by
      unfold List.Nodup
      rw [List.pairwise_map]
      exact List.Pairwise.imp (fun h => Px.less_ne h) hS
    exact (hp.map (·.1)).nodup_iff.2 h1
  unfold List.Nodup at hnd
  rw [List.pairwise_map] at hnd
  unfold Px.Srt
  rw [List.pairwise_iff_getElem] at hnd ⊢
  intro i j hi hj hij
  have h1 := hs i j (Nat.zero_le _) hij (by simpa using hj)
  rw [lt_cf, getElem!_pos d j (by simpa using hj), getElem!_pos d i (by simpa using hi)] at h1
  have h2 := hnd i j hi hj hij
  simp only [Array.getElem_toList] at h2 ⊢
  rcases Px.three d[i].1 d[j].1 with h | h | h
  · exact h
  · exact absurd h h2
  · rw [h] at h1; cases h1
theorem hold_own {W : World} {g : Nat} {cur : Array Value} {t : TypeId} {xs : List Px.Pr} (hg : W.heap[g]? = some (.cells cur t (0, 0))) (hx : cur.toList.take (xs.length * 2) = Px.cellsPr xs) : HoldsK encPr 2 W g 0 xs.toArray := by
  intro j hj
  have hj2 : j < xs.length * 2 := by rw [size_flatK] at hj; simpa using hj
  have e0 : 0 + j = j := Nat.zero_add j
  rw [e0]
  refine ⟨?_, by simp [World.frozen?, hg]⟩
  have h1 := get_flatK encPr 2 xs.toArray j (by simpa using hj2)
  have h2 := Px.cells_at xs j hj2
  rw [← hx, List.getElem?_take, if_pos hj2, Array.getElem?_toList] at h2
  have h3 : W.cell? ⟨g, j, none⟩ = cur[j]? := by simp [World.cell?, hg]
  rw [h3, h2]
  show some _ = some ((flatK encPr 2 xs.toArray)[j]!)
  rw [h1]
  congr 3
  simp
theorem put_take (F cur : Array Value) (h : F.size ≤ cur.size) : (putCells id 0 F cur).toList.take F.size = F.toList := by
  apply List.ext_getElem?
  intro j
  by_cases hj : j < F.size
  · rw [List.getElem?_take, if_pos hj, Array.getElem?_toList, Array.getElem?_toList]
    unfold putCells
    rw [Array.getElem?_mapIdx, Array.getElem?_eq_getElem (by omega : j < cur.size), Array.getElem?_eq_getElem hj]
    simp only [Option.map_some, Nat.zero_le, Nat.zero_add, hj, and_self, if_true, Nat.sub_zero, id_eq]
    rw [getElem!_pos F j hj]
  · rw [List.getElem?_take, if_neg hj, List.getElem?_eq_none (by simpa using hj)]
set_option maxRecDepth 100000 in
theorem sort_own (xs S : List Px.Pr) (hp : xs.Perm S) (hS : Px.Srt S) (base : Nat) (W : World) (v : Value) (hov : W.ownsRow base 23 2 v xs.length (Px.cellsPr xs)) (hl : xs.length ≤ 64) (hb : base ≤ W.heap.size) :
    Calls Tryd.prog 35 #[v, .func (.func 24) #[] #[]] W fun e w' => e = .returned (.tuple #[]) ∧ w'.ownsRow base 23 2 v S.length (Px.cellsPr S) ∧ Below base W w' := by
  have hlen : S.length = xs.length := hp.length_eq.symm
  rcases hov.2 with ⟨rfl, h0⟩ | ⟨g, cap, cur, rfl, hgb, hg, h1, h2, h3, h4⟩
  · have hx : xs = [] := List.eq_nil_of_length_eq_zero h0
    subst hx
    have hs : S = [] := List.eq_nil_of_length_eq_zero (by rw [hlen]; rfl)
    subst hs
    refine (AnyF.slices_SortFunc_none sxS none 0 (.func (.func 24) #[] #[]) W).mono ?_
    rintro e w' ⟨rfl, rfl⟩
    exact ⟨rfl, hov, Below.refl _ _⟩
  · have hgl : g < W.heap.size := (Array.getElem?_eq_some_iff.1 hg).1
    have hsz : xs.toArray.size = xs.length := by simp
    have hH : HoldsK encPr 2 W g 0 xs.toArray := hold_own hg h4
    have hC := AnyQ.slices_SortFunc sxS 2 Tryd.isAgg23 Tryd.sizeOf23 encPr (fun _ => rfl) (fun x v hv => by simp [encPr] at hv; rcases hv with rfl | rfl <;> rfl) cfPr swo_cf 24 #[] g 0 cap xs.toArray W (enters_of Tryd.func24 (by kernel_rfl) rfl) (cmp_lays _ _ _ _) hH hgl (by rw [hsz]; omega)
    rw [hsz] at hC
    refine hC.mono ?_
    rintro e w' ⟨rfl, d', n, os, ⟨hds, -, hdp⟩, hso, rfl⟩
    rw [hsz] at hds
    have hdl : d'.toList = S := by
      refine Px.srt_sorted hS ?_ (by rw [hds]; exact hso)
      have e1 : (d'.extract 0 xs.length).toList = d'.toList := by rw [← hds]; simp
      have e2 : (xs.toArray.extract 0 xs.length).toList = xs := by rw [← hsz]; simp
      rw [e1, e2] at hdp
      exact hdp.trans hp
    have hd : d' = S.toArray := by rw [← hdl]
    subst hd
    have hfl : (flatK encPr 2 S.toArray).size = xs.length * 2 := by rw [size_flatK, hds]
    have hcs : xs.length * 2 ≤ cur.size := by rw [h3]; exact Nat.mul_le_mul_right 2 h1
    have hheap : ∀ k, k < W.heap.size → (sortWorldK encPr 2 W g 0 n S.toArray os).heap[k]? = (W.heap.modify g (onCells (putCells id 0 (flatK encPr 2 S.toArray))))[k]? := fun k hk => by
      show ((W.heap.modify g (onCells (putCells id 0 (flatK encPr 2 S.toArray)))) ++ os)[k]? = _
      rw [Array.getElem?_append_left (by rw [Array.size_modify]; exact hk)]
    refine ⟨rfl, ⟨by rw [Px.cells_len], .inr ⟨g, cap, putCells id 0 (flatK encPr 2 S.toArray) cur, by rw [hlen], hgb, ?_, by rw [hlen]; exact h1, h2, ?_, ?_⟩⟩, rfl, rfl, rfl, ?_, ?_⟩
    · rw [hheap g hgl, Array.getElem?_modify, if_pos rfl, hg]
      rfl
    · unfold putCells
      rw [Array.size_mapIdx]; exact h3
    · rw [hlen, ← hfl, put_take _ _ (by rw [hfl]; exact hcs), Px.flat_cells]
    · show _ ≤ ((W.heap.modify g _) ++ os).size
      rw [Array.size_append, Array.size_modify]; omega
    · intro k hk
      rw [hheap k (by omega), Array.getElem?_modify, if_neg (by omega)]
set_option maxRecDepth 100000 in
theorem sorted_any (W : World) (g bx n : Nat) (l : List Px.Pr) (hm : MapAt W g n l) (hbx : VarAt W bx 51 (.map (some g))) (hs : Px.Srt l) (hl : l.length ≤ 64) :
    Calls Tryd.prog 22 #[.func (.func 36) #[] #[.pointer (some ⟨bx, 0, none⟩)], .func (.func 24) #[] #[]] W fun e w' => ∃ v, e = .returned v ∧ w'.ownsRow W.heap.size 23 2 v l.length (Px.cellsPr l) ∧ Bw W w' := by
  have H := collect_any bx g n l hs hl W hbx hm
  go_enter Tryd.func22, Tryd.ntmps22
  go_wp2_with (first
    | (go_at_call 34; refine H.mono ?_; rintro e w2 ⟨v, xs, rfl, h1, h2, h3⟩; have HS := sort_own xs l h1 hs W.heap.size w2 v h2 (by rw [h1.length_eq]; exact hl) h3.size)
    | (go_at_call 35; refine HS.mono ?_; rintro e w3 ⟨rfl, h4, h5⟩))
  go_ret
  exact ⟨v, rfl, h4, Go.RowKit.Below.trans h3 h5⟩
theorem sort_spec : SortSpec := ⟨vals_any, fun W g bx n l hm hbx _ hs hl _ => sorted_any W g bx n l hm hbx hs hl⟩
end Go.Proofs.YtmbabfelnieagabDoor
namespace Go.Proofs.YtmbabfelnieagabDoor
open Go.RowKit
set_option linter.unusedVariables false
theorem pover_any (A B : Option Addr) (ca cb : Nat) (L M : List Px.Pr) (hn : L.length ≤ 4611686018427387904) (hm : M.length ≤ 4611686018427387904) (hca : L.length ≤ ca) (hcb : M.length ≤ cb) (hSL : ∀ p ∈ L, p.1.length ≤ 140737488355328 ∧ p.2.length ≤ 140737488355328) (hSM : ∀ p ∈ M, p.1.length ≤ 140737488355328 ∧ p.2.length ≤ 140737488355328) (w : World) (hk : KAt w) (ha : PrsAt w A L) (hb : PrsAt w B M) :
    Calls Tryd.prog 11 #[.slice A L.length ca, .slice B M.length cb] w fun e w' => OverSays L M e w' ∧ Bw w w' :=
  (pover_own sort_spec A B ca cb L M hn hm hca hcb hSL hSM w hk ha hb).mono fun e w' ⟨⟨v, h1, h2⟩, h3⟩ => ⟨⟨v, h1, prsis_own h2⟩, h3⟩
end Go.Proofs.YtmbabfelnieagabDoor
