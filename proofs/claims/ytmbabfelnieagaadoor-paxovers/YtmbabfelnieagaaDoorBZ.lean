/- The values of a map of pairs, collected. -/
import Derived.Test.YtmbabfelnieagaaDoorBY
import Derived.RangeFuncNested
namespace Go.Proofs.YtmbabfelnieagaaDoor
open Go.RowKit Go.Maps Go.Sort Go.Shelf
set_option linter.unusedVariables false
set_option linter.unusedSimpArgs false
attribute [local go_sem] Oper.semAt_some

set_option maxRecDepth 100000 in
theorem vals_any (W : World) (g : Nat) : Calls Tryd.prog 36 #[.map (some g)] W fun e w' => e = .returned (.func (.func 48) #[] #[.pointer (some ⟨W.heap.size, 0, none⟩)]) ∧ w' = W.alloc (.cells #[.map (some g)] 61) := by
  go_enter Tryd.func36, Tryd.ntmps36
  go_wp2
  go_ret
  exact ⟨rfl, rfl⟩
theorem vals_stops (n : Nat) (hn : 1 ≤ n) (bx b nn : Nat) (S : List Px.Pr) (hsS : Px.Srt S) (w : World) (hbx : VarAt w bx 61 (.map (some b))) (hown : MapAt w b nn S) :
    SeqStopsK Fence.wide n Tryd.prog 48 #[.pointer (some ⟨bx, 0, none⟩)] (fun x => #[prV x]) KeepsWalks (fun xs => xs.Perm S) (fun _ => True) S.length w := fun l J Jx W hW hJ _ hY h0 => by
  refine (vals1_in Fence.wide n trivial rfl hn l bx b nn S hsS J Jx hY W hJ ?_ ?_ h0).mono ?_
  · exact (hbx.keep hW hbx.lt).cell
  · exact hown.keepb hW hown.lt
  · rintro e W' ⟨hv, h | ⟨pre, h⟩⟩
    · exact ⟨hv, .inl h⟩
    · exact ⟨hv, .inr ⟨pre, trivial, h⟩⟩
/-- one pair onto an owned list, within a fence -/
theorem wpListIn_pair9 {F : Fence} {m : Nat} {w : World} {ops : Array Oper} {rest : List Oper} {o : Oper} {a : Act} {Q : Exit → Act → World → Prop} (hgd : o.guard = none) (s x : Operand)
    (ho : o.op = .call { callee := .builtin .append, args := #[s, x], argTypes := #[33, 33] }) (B : Nat) (p : Px.Pr) (v : Value) (l : List Px.Pr) (n : Nat) (hn : l.length = n) (hs : a.eval s = v)
    (hown : w.ownsRow B 23 2 v n (Px.cellsPr l)) (g : Nat) (hx : a.eval x = .slice (some ⟨g, 0, none⟩) 1 1) (hg : w.heap[g]? = some (.cells #[.string (Nm.S p.1), .string (Nm.S p.2)] 23 (0, 0)))
    (hlen : n ≤ 1000000) (hB : B ≤ w.heap.size)
    (h : ∀ A c w', w'.ownsRow B 23 2 (.slice A (n + 1) c) (n + 1) (Px.cellsPr (l ++ [p])) → w.grownBy w' v.ownBlock → wpListIn F m Tryd.prog ops Q rest (a.put o.dst (.slice A (n + 1) c)) w') : wpListIn F m Tryd.prog ops Q (o :: rest) a w := by
  obtain ⟨i0, hi0, hz0, hz1, hz2⟩ := info_parts info_pair
  refine wpListIn_append_own w hgd s x _ ho B 23 i0 _ 2 32 Tryd.underlying33 hi0 hz0 hz1 hz2 rfl (by decide) v n (Px.cellsPr l) hs hown ⟨g, 0, none⟩ 1 1 [.string (Nm.S p.1), .string (Nm.S p.2)] hx rfl (World.news_of_block (cs := #[_, _]) hg) (by simp [Value.oneCell']) (by unfold maxLen; omega) (by omega) hB ?_
  intro v' w' h1 h2 _
  obtain ⟨A, c, rfl⟩ := own_slice h1
  refine h A c w' ?_ h2
  rw [Px.cellsPr_append]
  exact h1
set_option maxRecDepth 100000 in
set_option maxHeartbeats 2000000 in
theorem appseq_in (bx b nn : Nat) (S : List Px.Pr) (hsS : Px.Srt S) (hl : S.length ≤ 64) (w : World) (hbx : VarAt w bx 61 (.map (some b))) (hown : MapAt w b nn S) :
    CallsIn Fence.wide 10 Tryd.prog 54 #[.slice none 0 0, .func (.func 48) #[] #[.pointer (some ⟨bx, 0, none⟩)]] w fun e w' => ∃ (v : Value) (xs : List Px.Pr), e = .returned v ∧ xs.Perm S ∧ w'.ownsRow w.heap.size 23 2 v xs.length (Px.cellsPr xs) ∧ Bw w w' := by
  refine callsIn_of_wp_marks Tryd.func54 rfl trivial ?_ rfl
  simp only [Tryd.ntmps54, List.size_toArray, List.length_cons, List.length_nil, Nat.reduceAdd, Nat.reduceSub, Array.replicate_succ, Array.replicate_zero, List.push_toArray, List.append_toArray, List.nil_append, List.cons_append]
  gi_wp2
  obtain ⟨w2, hw2⟩ : ∃ w2, Hid (w.alloc (.cells #[.slice none 0 0] 33) = w2) := ⟨_, rfl⟩
  have hb2 : Bw w w2 := by rw [← hw2.out]; exact Below.alloc (Below.refl _ _) (Nat.le_refl _) _
  have hz2 : w2.heap.size = w.heap.size + 1 := by rw [← hw2.out]; exact alloc_size9 _ _
  have hB2 : Boxed w2 w.heap.size 33 (.slice none 0 0) := by rw [← hw2.out]; exact Boxed.new _ _ _
  have hbx2 := hbx.keep hb2 hbx.lt
  have hown2 := hown.keepb hb2 hown.lt
  rw [hw2.out]
  clear hw2
  refine' wpIn_rangeFunc_ownH rfl (by omega) (gf := 48) (lb := #[.pointer (some ⟨bx, 0, none⟩)]) rfl trivial (enters_of Tryd.func48 (by kernel_rfl) rfl)
    (vals_stops 9 (by omega) bx b nn S hsS w2 hbx2 hown2) (fun h k => h.trans k) (fun W l o o' hl ho _ hw => KeepsWalks.putObj _ ho hw) (Below.refl _ _) (fun _ => rfl)
    (fun pre W => (∃ v, Boxed W w.heap.size 33 v ∧ W.ownsRow w.heap.size 23 2 v pre.length (Px.cellsPr pre) ∧ True) ∧ Below w.heap.size w W)
    (fun c pre W => False)
    (OwnFrom.and (Own.from (holdsRow_own w.heap.size w.heap.size 33 23 2 (fun pre => pre.length) (fun pre => Px.cellsPr pre) (fun _ _ => True)) _) (ownFrom_below (Nat.le_refl _) (by omega)))
    (fun c => fun _ _ _ _ h _ _ => h)
    ⟨⟨_, hB2, ⟨rfl, .inl ⟨rfl, rfl⟩⟩, trivial⟩, hb2⟩
    (fun x a' W => ∃ g5 u8 u9 u10 u11 u12, a' = { tmps := #[.slice none 0 0, .func (.func 48) #[] #[.pointer (some ⟨bx, 0, none⟩)], .pointer (some ⟨w.heap.size, 0, none⟩), undef, .slice none 0 0, .pointer (some ⟨g5, 0, none⟩), .func (.func 48) #[] #[.pointer (some ⟨bx, 0, none⟩)], prV x, u8, u9, u10, u11, u12], defers := [] } ∧ W.cell? ⟨g5, 0, none⟩ = some (.string (Nm.S x.1)) ∧ W.cell? ⟨g5, 1, none⟩ = some (.string (Nm.S x.2)))
    (fun x a' => Own.from (fun s A B row hs hg hr => by
      obtain ⟨g5, u8, u9, u10, u11, u12, h1, h2, h3⟩ := hs
      exact ⟨g5, u8, u9, u10, u11, u12, h1, cell_kept h2 hg hr, cell_kept h3 hg hr⟩) _)
    ?assign ?body ?done ?stop
  case assign =>
    intro l pre x W K hI hK
    obtain ⟨x1, x2⟩ := x
    unfold prV
    dsimp only
    obtain ⟨⟨v, hBv, hov, -⟩, hbw⟩ := hI
    gi_wp2
    refine hK _ _ ?_ ?_ ?_ ⟨W.heap.size, _, _, _, _, _, rfl, ?_, ?_⟩
    · exact (KeepsOthers.alloc W _).from _
    · exact KeepsWalks.alloc _ _
    · exact ⟨⟨v, hBv.alloc _, hov.alloc _, trivial⟩, hbw.alloc hbw.size _⟩
    · exact cell_of_row _ _ 0 _ _ _ (heap_alloc_new W _)
    · exact cell_of_row _ _ 1 _ _ _ (heap_alloc_new W _)
  case body =>
    rintro l pre x a' W hwl _ ⟨⟨v, hBv, hov, -⟩, hbw⟩ ⟨g5, u8, u9, u10, u11, u12, rfl, p1, p2⟩ hlt
    have hc := hBv.cell
    have hf := hBv.frozen
    have hsz := hbw.size
    have hnew : (W.alloc (.cells #[.string (Nm.S x.1), .string (Nm.S x.2)] 23)).heap[W.heap.size]? = some (.cells #[.string (Nm.S x.1), .string (Nm.S x.2)] 23 (0, 0)) := heap_alloc_new W _
    have hoa := hov.alloc (.cells #[.string (Nm.S x.1), .string (Nm.S x.2)] 23)
    gi_wp2_with (first
      | (gi_at_builtin; refine wpListIn_pair9 (by rfl) _ _ (by rfl) w.heap.size x v pre pre.length rfl (by rfl) hoa W.heap.size (by rfl) hnew (by omega) (by rw [alloc_size9]; omega) ?_; intro A5 c5 w3 ho3 hg3
         obtain ⟨hB3, hB4, ho4, hko, hbl⟩ := Boxed.appended hBv (by decide) hov hsz (Nat.le_refl _) ho3 hg3
         have hc3 := hB3.cell
         have hf3 := hB3.frozen
         clear hnew hoa hc hf p1 p2 hov hBv ho3 hg3 hB3
         refine Hid.out ?_)
      | gi_in)
    refine Lib.hid ?_
    gi_wp2
    exact ⟨hko.from _, hko.walks, ⟨_, hB4, by rw [List.length_append]; exact ho4, trivial⟩, hbw.trans hbl⟩
  case done =>
    rintro D ys W hD hys ⟨⟨v, hBv, hov, -⟩, hbw⟩ hK
    have hc := hBv.cell
    gi_wp2
    refine ⟨by simp, .inl ⟨_, _, rfl, run_takeDeferred hK, ?_⟩⟩
    refine ⟨v, ?_, v, ys, rfl, hys, ownsRow_putObj hov _ hK rfl, hbw.trans (belowK_b (w := w) (Nat.le_refl _) _ D _ (.deferred none) (by omega) hK rfl rfl)⟩
    simp [results, Tryd.f54, go_sem]
  case stop =>
    rintro D c pre W hD _ h
    exact h.elim
theorem appseq_any (bx b nn : Nat) (S : List Px.Pr) (hsS : Px.Srt S) (hl : S.length ≤ 64) (w : World) (hbx : VarAt w bx 61 (.map (some b))) (hown : MapAt w b nn S) :
    Calls Tryd.prog 54 #[.slice none 0 0, .func (.func 48) #[] #[.pointer (some ⟨bx, 0, none⟩)]] w fun e w' => ∃ (v : Value) (xs : List Px.Pr), e = .returned v ∧ xs.Perm S ∧ w'.ownsRow w.heap.size 23 2 v xs.length (Px.cellsPr xs) ∧ Bw w w' :=
  callsIn_wide.1 (appseq_in bx b nn S hsS hl w hbx hown)
set_option maxRecDepth 100000 in
theorem collect_any (bx b nn : Nat) (S : List Px.Pr) (hsS : Px.Srt S) (hl : S.length ≤ 64) (w : World) (hbx : VarAt w bx 61 (.map (some b))) (hown : MapAt w b nn S) :
    Calls Tryd.prog 46 #[.func (.func 48) #[] #[.pointer (some ⟨bx, 0, none⟩)]] w fun e w' => ∃ (v : Value) (xs : List Px.Pr), e = .returned v ∧ xs.Perm S ∧ w'.ownsRow w.heap.size 23 2 v xs.length (Px.cellsPr xs) ∧ Bw w w' := by
  have H := appseq_any bx b nn S hsS hl w hbx hown
  go_enter Tryd.func46, Tryd.ntmps46
  go_wp2_with (go_at_call 54; refine H.mono ?_; rintro e w2 ⟨v, xs, rfl, h1, h2, h3⟩)
  go_ret
  exact ⟨v, xs, rfl, h1, h2, h3⟩
end Go.Proofs.YtmbabfelnieagaaDoor
