/- Layer 15: recordsOf. -/
import Derived.Test.YtppknadflmjefaaWF
namespace Go.Proofs.Ytppknadflmjefaa
open Go.RowKit Go.Deep Go.Maps
set_option linter.unusedVariables false
set_option linter.unusedSimpArgs false

namespace Jl
theorem data_two (f : Nat → Int) (k : Nat) : data f (k + 2) = (f 0).toNat :: (f 1).toNat :: data (fun i => f (2 + i)) k := by
  rw [Nat.add_comm k 2, data_add]
  rfl
theorem data_drop (f : Nat → Int) (n p : Nat) : (data f n).drop p = data (fun i => f (p + i)) (n - p) := by
  apply List.ext_getElem?
  intro i
  rw [List.getElem?_drop]
  by_cases h : p + i < n
  · rw [data_at f h, data_at _ (by omega)]
  · rw [List.getElem?_eq_none (by rw [data_len]; omega), List.getElem?_eq_none (by rw [data_len]; omega)]
theorem data_take (f : Nat → Int) {n m : Nat} (h : m ≤ n) : (data f n).take m = data f m := by
  apply List.ext_getElem?
  intro i
  rw [List.getElem?_take]
  by_cases h1 : i < m
  · rw [if_pos h1, data_at f (by omega), data_at f h1]
  · rw [if_neg h1, List.getElem?_eq_none (by rw [data_len]; omega)]
theorem num_two (f : Nat → Int) : num f 2 = (f 0).toNat * 256 + (f 1).toNat := by simp [num]
theorem spl_data (f : Nat → Int) (k : Nat) : spl (data f (k + 2)) = if num f 2 ≤ k then (spl (data (fun i => f (2 + num f 2 + i)) (k - num f 2))).map (fun l => data (fun i => f (2 + i)) (num f 2) :: l) else none := by
  rw [data_two, spl_two, ← num_two, data_len]
  by_cases h : num f 2 ≤ k
  · rw [if_pos h, if_pos h, data_drop, data_take _ h]
    have e : (fun i => (fun i => f (2 + i)) (num f 2 + i)) = fun i => f (2 + num f 2 + i) := funext fun i => by show f (2 + (num f 2 + i)) = _; rw [Nat.add_assoc]
    rw [e]
  · rw [if_neg h, if_neg h]
end Jl
theorem own_low15 {w : World} {base base' e size n : Nat} {v : Value} {xs : List Value} (h : w.ownsRow base e size v n xs) (hb : base' ≤ base) : w.ownsRow base' e size v n xs := by
  refine ⟨h.1, ?_⟩
  rcases h.2 with h0 | ⟨g, cap, cur, h1, h2, h3⟩
  · exact .inl h0
  · exact .inr ⟨g, cap, cur, h1, Nat.le_trans hb h2, h3⟩
theorem own_keepx15 {P : Nat → Prop} {w w' : World} {base e size n : Nat} {v : Value} {xs : List Value} (h : w.ownsRow base e size v n xs) (k : Bx P w w') (hP : ∀ b, v.ownBlock = some b → ¬ P b) : w'.ownsRow base e size v n xs := by
  refine ⟨h.1, ?_⟩
  rcases h.2 with h0 | ⟨g, cap, cur, rfl, h2, h3, h4⟩
  · exact .inl h0
  · exact .inr ⟨g, cap, cur, rfl, h2, (k.block g (Array.getElem?_eq_some_iff.1 h3).1 (hP g rfl)).trans h3, h4⟩
/-- how recordsOf ends -/
def RecsV (w : World) (D : List Nat) (gb : Nat) (e : Ending) (w' : World) : Prop := Bw w w' ∧ ((Jl.spl D = none ∧ e = thrown15) ∨ ∃ L v vs, Jl.spl D = some L ∧ e = .returned v ∧ w'.ownsRow w.heap.size 37 1 v L.length vs ∧ RowsV w' vs L ∧ RIn (· = gb) vs)
/-- how far recordsOf has come -/
structure RecLoop (w wr : World) (f : Nat → Int) (n g gb : Nat) (l : Value) (A : Option Addr) (p q : Nat) (vs : List Value) (pre : List (List Nat)) : Prop where
  pq : p + q = n
  blk : wr.heap[g]? = some (.cells #[.slice A q q] 37 (0, 0))
  at_ : 0 < q → A = some ⟨gb, p, none⟩
  few : pre.length ≤ p
  own : wr.ownsRow (g + 1) 37 1 l pre.length vs
  rows : RowsV w vs pre
  rin : RIn (· = gb) vs
  spl : Jl.spl (Jl.data f n) = (Jl.spl (Jl.data (fun i => f (p + i)) q)).map (fun l => pre ++ l)
  bw : Bw w wr
set_option maxRecDepth 100000 in
set_option maxHeartbeats 4000000 in
theorem jrecordsof_any (gb n : Nat) (f : Nat → Int) (w : World) (hn : n ≤ 4194304) (h : RowAt w (some ⟨gb, 0, none⟩) n f) :
    Calls Try.prog 68 #[.slice (some ⟨gb, 0, none⟩) n n] w fun e w' => RecsV w (Jl.data f n) gb e w' := by
  have hmf : ∀ (fn : Fn) (first cap : Array Value) (w : World), (Instr.makeFunc fn first cap).run Try.prog w = .ok (.func fn first cap) w := fun _ _ _ _ => rfl
  obtain ⟨i0, hi0, hz0, hz1, hz2⟩ := info_parts info_row15
  obtain ⟨g, hg⟩ : ∃ g, Hid (w.heap.size = g) := ⟨_, rfl⟩
  have hrow : Hid (∀ p q, p + q ≤ n → RowAt w (some ⟨gb, p, none⟩) q (fun i => f (p + i))) := fun p q hpq => by
    refine ⟨?_, fun i => h.2 _⟩
    by_cases h0 : q = 0
    · exact .inl h0
    · obtain ⟨b', o', e, hc⟩ := h.at (k := 0) (by omega)
      cases e
      exact .inr ⟨gb, p, rfl, fun i hi => by have := hc (p + i) (by omega); rwa [Nat.zero_add] at this⟩
  clear h
  go_enter Try.func68, Try.ntmps68
  go_wp2
  obtain ⟨W0, hW0⟩ : ∃ W, Hid (w.alloc (.cells #[.slice (some ⟨gb, 0, none⟩) n n] 37) = W) := ⟨_, rfl⟩
  have hL0 : RecLoop w W0 f n g gb (.slice none 0 0) (some ⟨gb, 0, none⟩) 0 n [] [] := by
    refine ⟨Nat.zero_add n, ?_, fun _ => rfl, Nat.le_refl _, World.ownsRow_nil _ _ _ _, RowsV.nil _, fun v hv => (by cases hv), ?_, ?_⟩
    · rw [← hW0.out, ← hg.out]; exact heap_alloc_new _ _
    · have e : (fun i => f (0 + i)) = f := funext fun i => by rw [Nat.zero_add]
      rw [e]
      cases Jl.spl (Jl.data f n) <;> rfl
    · rw [← hW0.out]; exact Below.alloc (Bw.refl _) (Nat.le_refl _) _
  rw [hW0.out, hg.out]
  go_loopw [4] (fun l wr => ∃ A p q vs pre, RecLoop w wr f n g gb l A p q vs pre) (fun l wr => match wr.cell? ⟨g, 0, none⟩ with | some (.slice _ n _) => n | _ => 0)
  case atStart => exact ⟨_, _, _, _, _, hL0⟩
  case round =>
    obtain ⟨A, p, q, vs, pre, hI⟩ := hrel
    clear hL0
    have c0 := cell_of_row wr g 0 _ _ _ hI.blk
    replace c0 : wr.cell? ⟨g, 0, none⟩ = some (.slice A q q) := c0
    have f0 := frozen_of_row wr g 0 _ _ hI.blk
    have hpq := hI.pq
    have q0 : q ≤ 4194304 := by omega
    clear hpq
    by_cases hq : 0 < q
    · obtain rfl := hI.at_ hq
      by_cases hq2 : q < 2
      · obtain rfl : q = 1 := by omega
        have HX := jlen_short g 1 1 _ wr c0 (by omega)
        have hend : Hid (RecsV w (Jl.data f n) gb thrown15 wr) := ⟨hI.bw, .inl ⟨by rw [hI.spl]; rfl, rfl⟩⟩
        clear hI
        go_wp2_with (go_at_call 81; refine HX.mono ?_; rintro e w1 ⟨rfl, hw⟩; obtain rfl := hw.symm; unfold thrown15)
        exact ⟨rfl, hend.out⟩
      · obtain ⟨k, rfl⟩ : ∃ k, q = k + 2 := ⟨q - 2, by omega⟩
        have hs := Jl.spl_data (fun i => f (p + i)) k
        have hR := (hrow.out p (k + 2) (by have := hI.pq; omega)).keep hI.bw
        by_cases hm : Jl.num (fun i => f (p + i)) 2 ≤ k
        · have HX := jlen_ok g (k + 2) (k + 2) _ _ wr c0 hR (by omega) (by omega) (Nat.le_refl _) (by omega)
          rw [if_pos hm] at hs
          obtain ⟨m, hm'⟩ : ∃ m, Hid (Jl.num (fun i => f (p + i)) 2 = m) := ⟨_, rfl⟩
          rw [hm'.out] at HX hs hm
          have HS : Hid (Jl.spl (Jl.data (fun i => f (p + i)) (k + 2)) = Option.map (fun l => Jl.data (fun i => f (p + (2 + i))) m :: l) (Jl.spl (Jl.data (fun i => f (p + (2 + m + i))) (k - m)))) := hs
          obtain ⟨q, hqe⟩ : ∃ q, Hid (q = k + 2) := ⟨_, rfl⟩
          rw [← hqe.out] at c0 q0
          have m1 : (2 : Int) + (m : Int) ≤ (q : Int) := by have := hqe.out; omega
          have m0 : (0 : Int) ≤ (m : Int) := Int.natCast_nonneg _
          clear hs hR hq2 hq
          have hown : Hid (wr.ownsRow (g + 1) 37 1 u4 pre.length vs) := hI.own
          have few1 : Hid (pre.length + 1 ≤ maxLen) := by have h1 := hI.few; have h2 := hI.pq; show _ ≤ _; unfold maxLen; omega
          have few2 : Hid ((pre.length + 1) * 24 ≤ 140737488355328) := by have h1 := hI.few; have h2 := hI.pq; show _ ≤ _; omega
          have hgl : g < wr.heap.size := (Array.getElem?_eq_some_iff.1 hI.blk).1
          have hgs : Hid (∀ o, g + 1 ≤ (wr.alloc o).heap.size) := fun o => by rw [size_alloc]; omega
          have hfin : Hid (∀ (rv : Value) (l2 : Value) (w2 : World), RowV w rv (Jl.data (fun i => f (p + (2 + i))) m) → VIn (· = gb) rv → w2.ownsRow (g + 1) 37 1 l2 (pre.length + 1) (vs ++ [rv]) → (wr.alloc (.cells #[rv] 37)).grownBy w2 u4.ownBlock →
              w2.cell? ⟨g, 0, none⟩ = some (.slice (some ⟨gb, p, none⟩) q q) ∧ w2.frozen? ⟨g, 0, none⟩ = false ∧ Hid (∀ A2 q2, q2 + (2 + m) = q → (0 < q2 → A2 = some ⟨gb, p + (2 + m), none⟩) → (∃ A p q vs pre, RecLoop w (w2.setCell ⟨g, 0, none⟩ (.slice A2 q2 q2)) f n g gb l2 A p q vs pre) ∧ (match (w2.setCell ⟨g, 0, none⟩ (.slice A2 q2 q2)).cell? ⟨g, 0, none⟩ with | some (.slice _ n _) => n | _ => 0) < (match wr.cell? ⟨g, 0, none⟩ with | some (.slice _ n _) => n | _ => 0))) := fun rv l2 w2 hrv hvin hown2 hgrow2 => by
            have hne : ∀ k, u4.ownBlock = some k → g + 1 ≤ k := own_ge hI.own
            have hb2 : w2.heap[g]? = some (.cells #[.slice (some ⟨gb, p, none⟩) q q] 37 (0, 0)) := by
              rw [hgrow2.block g (by rw [size_alloc]; omega) (fun e => by have := hne g e.symm; omega), (Below.alloc (Bw.refl wr) (Nat.le_refl _) (.cells #[rv] 37) : Bw wr _).block g hgl, hI.blk, hqe.out]
            refine ⟨cell_of_row w2 g 0 _ _ _ hb2, frozen_of_row w2 g 0 _ _ hb2, fun A2 q2 hq2 hA2 => ⟨⟨A2, p + (2 + m), q2, vs ++ [rv], pre ++ [Jl.data (fun i => f (p + (2 + i))) m], ?_⟩, ?_⟩⟩
            · have hx : Bx (· = g) w2 (w2.setCell ⟨g, 0, none⟩ (.slice A2 q2 q2)) := (Bx.refl _ _).put rfl
              have hbw2 : Bw w w2 := Below.grown (Below.alloc hI.bw hI.bw.size _) hgrow2 (by rw [size_alloc]; have := hI.bw.size; omega) (fun k hk => by have := hne k hk; have := hg.out; omega)
              refine ⟨by have := hI.pq; have := hqe.out; omega, heap_setCell_same w2 g 0 _ _ _ hb2, hA2, ?_, ?_, hI.rows.append (RowsV.one hrv), hI.rin.append (fun v hv => by rw [List.mem_singleton.1 hv]; exact hvin), ?_, Below.trans hbw2 (hx.below hbw2.size (fun b e => by have e' : b = g := e; have := hg.out; omega))⟩
              · rw [List.length_append]; have := hI.few; simp; omega
              · rw [List.length_append]
                exact own_keepx15 hown2 hx (fun b hb e => by have e' : b = g := e; have := own_ge hown2 b hb; omega)
              · rw [hI.spl, HS.out]
                have e1 : k - m = q2 := by have := hqe.out; omega
                have e2 : (fun i => f (p + (2 + m + i))) = fun i => f (p + (2 + m) + i) := funext fun i => by rw [Nat.add_assoc p]
                rw [e1, e2]
                cases Jl.spl (Jl.data (fun i => f (p + (2 + m) + i)) q2) <;> simp
            · rw [c0, World.cell?_setCell_same' _ _ _ (by rw [cell_of_row w2 g 0 _ _ _ hb2]; rfl)]
              show q2 < q
              omega
          have hrv0 : Hid (m = 0 → RowV w (.slice (some ⟨gb, p, none⟩) 0 0) (Jl.data (fun i => f (p + (2 + i))) m)) := fun e => by
            subst e
            exact ⟨some ⟨gb, p, none⟩, 0, rfl, Nat.le_refl _, fun e => (by cases e), Nat.zero_le _, ⟨Or.inl rfl, fun i => ⟨Int.le_refl _, by show (0 : Int) < 256; decide⟩⟩⟩
          have hrv1 : Hid (RowV w (.slice (some ⟨gb, p + 2, none⟩) m m) (Jl.data (fun i => f (p + (2 + i))) m)) := by
            have h1 := hrow.out (p + 2) m (by have := hI.pq; omega)
            refine ⟨some ⟨gb, p + 2, none⟩, m, by rw [Jl.data_len], by rw [Jl.data_len]; exact Nat.le_refl _, fun e => (by cases e), by rw [Jl.data_len]; omega, ?_⟩
            rw [Jl.data_len]
            have hb : ∀ i, 0 ≤ f (p + (2 + i)) ∧ f (p + (2 + i)) < 256 := fun i => by have h2 : 0 ≤ f (p + 2 + i) ∧ f (p + 2 + i) < 256 := h1.2 i; rwa [Nat.add_assoc] at h2
            refine ⟨?_, Jl.rowL_bd (Jl.data_byt hb m)⟩
            rcases h1.1 with h0 | ⟨b', o', e', hc'⟩
            · exact .inl h0
            · exact .inr ⟨b', o', e', fun i hi => by rw [hc' i hi, Jl.rowL_data (fun i => f (p + (2 + i))) (fun i => (hb i).1) hi]; show some (Value.int .u8 (f (p + 2 + i))) = _; rw [Nat.add_assoc]⟩
          clear hI hm
          rcases Nat.eq_zero_or_pos m with m00 | m00
          · have hrv := hrv0.out m00
            subst m00
            by_cases hqe2 : q = 2
            · subst hqe2
              go_wp2_with (first
                | (go_at_call 81; refine HX.mono ?_; rintro e w1 ⟨rfl, hw⟩; obtain rfl := hw.symm)
                | (at_builtin; refine wpList_append_lies _ (by rfl) (.tmp 13) (.tmp 18) _ (by rfl) (g + 1) 37 i0 _ 1 24 Try.underlying42 hi0 hz0 hz1 hz2 rfl (by omega) _ _ _ (by rfl) (hown.out.alloc _) ⟨wr.heap.size, 0, none⟩ 1 1 [_] (by rfl) (by rfl) (World.news_of_block (cs := #[_]) (t := 37) (fr := (0, 0)) (heap_alloc_new wr _)) (by simp [Value.oneCell']) (by omega) few1.out few2.out (hgs.out _) (wr.heap.size + 1) (by simp) ?_; intro g2 c2 w2 hown2 hgrow2 hat2 hlt2; obtain ⟨d0, d1, hf2⟩ := hfin.out _ _ w2 hrv (fun b o n c e h0 => by cases e; first | rfl | exact absurd h0 (Nat.lt_irrefl _)) hown2 hgrow2))
              exact hf2.out _ _ (by omega) (fun h => absurd h (by omega))
            · have hq3 : (2 : Int) < (q : Int) := by omega
              go_wp2_with (first
                | (go_at_call 81; refine HX.mono ?_; rintro e w1 ⟨rfl, hw⟩; obtain rfl := hw.symm)
                | (at_builtin; refine wpList_append_lies _ (by rfl) (.tmp 13) (.tmp 18) _ (by rfl) (g + 1) 37 i0 _ 1 24 Try.underlying42 hi0 hz0 hz1 hz2 rfl (by omega) _ _ _ (by rfl) (hown.out.alloc _) ⟨wr.heap.size, 0, none⟩ 1 1 [_] (by rfl) (by rfl) (World.news_of_block (cs := #[_]) (t := 37) (fr := (0, 0)) (heap_alloc_new wr _)) (by simp [Value.oneCell']) (by omega) few1.out few2.out (hgs.out _) (wr.heap.size + 1) (by simp) ?_; intro g2 c2 w2 hown2 hgrow2 hat2 hlt2; obtain ⟨d0, d1, hf2⟩ := hfin.out _ _ w2 hrv (fun b o n c e h0 => by cases e; first | rfl | exact absurd h0 (Nat.lt_irrefl _)) hown2 hgrow2))
              exact hf2.out _ _ (by omega) (fun h => by simp)
          · by_cases hqe2 : q = 2 + m
            · subst hqe2
              go_wp2_with (first
                | (go_at_call 81; refine HX.mono ?_; rintro e w1 ⟨rfl, hw⟩; obtain rfl := hw.symm)
                | (at_builtin; refine wpList_append_lies _ (by rfl) (.tmp 13) (.tmp 18) _ (by rfl) (g + 1) 37 i0 _ 1 24 Try.underlying42 hi0 hz0 hz1 hz2 rfl (by omega) _ _ _ (by rfl) (hown.out.alloc _) ⟨wr.heap.size, 0, none⟩ 1 1 [_] (by rfl) (by rfl) (World.news_of_block (cs := #[_]) (t := 37) (fr := (0, 0)) (heap_alloc_new wr _)) (by simp [Value.oneCell']) (by omega) few1.out few2.out (hgs.out _) (wr.heap.size + 1) (by simp) ?_; intro g2 c2 w2 hown2 hgrow2 hat2 hlt2; obtain ⟨d0, d1, hf2⟩ := hfin.out _ _ w2 hrv1.out (fun b o n c e h0 => by cases e; first | rfl | exact absurd h0 (Nat.lt_irrefl _)) hown2 hgrow2))
              exact hf2.out _ _ (by omega) (fun h => absurd h (by omega))
            · have hq3 : (2 : Int) + (m : Int) < (q : Int) := by omega
              go_wp2_with (first
                | (go_at_call 81; refine HX.mono ?_; rintro e w1 ⟨rfl, hw⟩; obtain rfl := hw.symm)
                | (at_builtin; refine wpList_append_lies _ (by rfl) (.tmp 13) (.tmp 18) _ (by rfl) (g + 1) 37 i0 _ 1 24 Try.underlying42 hi0 hz0 hz1 hz2 rfl (by omega) _ _ _ (by rfl) (hown.out.alloc _) ⟨wr.heap.size, 0, none⟩ 1 1 [_] (by rfl) (by rfl) (World.news_of_block (cs := #[_]) (t := 37) (fr := (0, 0)) (heap_alloc_new wr _)) (by simp [Value.oneCell']) (by omega) few1.out few2.out (hgs.out _) (wr.heap.size + 1) (by simp) ?_; intro g2 c2 w2 hown2 hgrow2 hat2 hlt2; obtain ⟨d0, d1, hf2⟩ := hfin.out _ _ w2 hrv1.out (fun b o n c e h0 => by cases e; first | rfl | exact absurd h0 (Nat.lt_irrefl _)) hown2 hgrow2))
              exact hf2.out _ _ (by omega) (fun h => by simp)
        · have HX := jlen_bad g (k + 2) (k + 2) _ _ wr c0 hR (by omega) (by omega) (Nat.le_refl _) (by omega)
          rw [if_neg hm] at hs
          have hend : Hid (RecsV w (Jl.data f n) gb thrown15 wr) := ⟨hI.bw, .inl ⟨by rw [hI.spl, hs]; rfl, rfl⟩⟩
          clear hI hs hR
          go_wp2_with (go_at_call 81; refine HX.mono ?_; rintro e w1 ⟨rfl, hw⟩; obtain rfl := hw.symm; unfold thrown15)
          exact ⟨rfl, hend.out⟩
    · obtain rfl : q = 0 := by omega
      have hend : Hid (RecsV w (Jl.data f n) gb (.returned u4) wr) := by
        refine ⟨hI.bw, .inr ⟨pre, u4, vs, ?_, rfl, ?_, hI.rows.keep hI.bw, hI.rin⟩⟩
        · rw [hI.spl]
          show Option.map (fun l => pre ++ l) (some []) = some pre
          simp
        · rw [hg.out]; exact own_low15 hI.own (Nat.le_succ g)
      clear hI
      go_wp2
      go_ret
      exact hend.out
end Go.Proofs.Ytppknadflmjefaa
